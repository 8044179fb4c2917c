/-
  Given for the seat's laws: the law's own six and none. No condition but those of the theorems.
-/
import Derived.Test.YtpllhnknejceiaaGreatDoorHOwn
import Derived.Test.YtpllhnknejceiaaGreatDoorHPT
import Derived.Deep.RegionLaw
import Derived.BigRegion
namespace Go.Proofs.YtpllhnknejceiaaGreatDoor.hw
open Go.RowKit mem hostp own
set_option linter.unusedVariables false

section
variable {P : Program} {w w' : World} {ops : Array Oper} {rest : List Oper} {o : Oper} {a : Act} {Q : Exit → Act → World → Prop} {v u v' : Value}
theorem step_append_eq {K : Act → World → Prop} {E : Prop} (hg : o.guard = none) (s x : Operand) (t tn : TypeId)
    (hop : o.op = Op.call { callee := Callee.builtin Builtin.append, args := #[s, x], argTypes := #[t, tn] }) (hty : o.type = t) (hs : a.eval s = v) (hx : a.eval x = u)
    (hrun : (Builtin.append_ #[t, tn] t #[v, u]).run P w = .ok v' w') (h : K (a.put o.dst v') w') : if Region.wanted o (yielded ops a.tmps) = true then Oper.wp P o a w K Q else E := by
  have hw : Region.wanted o (yielded ops a.tmps) = true := by simp [Region.wanted, hg]
  rw [if_pos hw]
  unfold Oper.wp
  simp [execOp, hop, hty, resolve, invoke, builtin, hs, hx, hrun, Result.andThen]
  exact h
end

theorem results_six {W : World} {h : Nat} {k : Int} {t : ByteArray} (hl : Lies W h 23 #[.int .u8 k, .string t]) (tmps : Array Value) (h2 : tmps[2]?.getD undef = .pointer (some ⟨h, 0, none⟩)) :
    (results Tryz.f19 tmps).run Tryz.prog W = .ok (hv k t) W := by
  have c0 := hl.cell 0
  have c1 := hl.cell 1
  simp at c0 c1
  unfold hv
  simp [results, Tryz.results19, go_sem, h2, c0, c1]

theorem lit2_src (w : World) (x y : UInt8) : Spell (w.alloc (.cells #[.int .u8 (x.toNat : Int), .int .u8 (y.toNat : Int)] 5)) (fun g => g = w.heap.size) (some ⟨w.heap.size, 0, none⟩) 2 2 [x, y] :=
  src_lit w (ints [x, y]) (0, 0) (ints_rng _) (by simp [ints])
theorem byte_is {N : Nat} (h : N < 256) : ((UInt8.ofNat N).toNat : Int) = (N : Int) := by simp; omega

set_option maxRecDepth 100000 in
set_option maxHeartbeats 1600000 in
theorem lsix_any {w : World} {blk n : Nat} {g : List Nat} (hn : g.length = n) (hn8 : n ≤ 8) (hblk : blk < w.heap.size) (hc : ∀ (j v : Nat), g[j]? = some v → w.cell? ⟨blk, j, none⟩ = some (.int .u16 (v : Int))) (hlt : ∀ v ∈ g, v < 65536) :
    Calls Tryz.prog 19 #[.slice (some ⟨blk, 0, none⟩) n n] w (Gives (hv 2 (S (by2 g))) w) := by
  obtain ⟨w0, hw0⟩ : ∃ w0, w0 = w.alloc (.cells #[.int .u8 0, .string ⟨#[]⟩] 23) := ⟨_, rfl⟩
  have l0 : Lies w0 w.heap.size 23 #[.int .u8 0, .string ⟨#[]⟩] := by rw [hw0]; exact Lies.new _ _ _
  have hb0 : Below w.heap.size w w0 := by rw [hw0]; exact (Below.refl _ w).alloc (Nat.le_refl _) _
  have hm0 : Made w0 w0 (.slice none (0 : Nat) 0) [] := ⟨own_none w0 _ _, Below.refl _ _⟩
  have L0 := Bx.mk l0
  have HB0 := Bx.mk hb0
  have HN := Bx.mk hn
  have HC := Bx.mk hc
  have HLT := Bx.mk hlt
  have HBK := Bx.mk hblk
  have h0 : Bx (Made w0 w0 (.slice none ((by2 (g.take 0)).length : Nat) 0) (by2 (g.take 0))) := ⟨hm0⟩
  obtain ⟨hr, hhr⟩ : ∃ hr, hr = w.heap.size := ⟨_, rfl⟩
  have hrw : w.heap.size ≤ hr := by omega
  rw [← hhr] at L0
  clear l0 hb0 hn hc hlt hm0 hblk
  go_enter Tryz.func19, Tryz.ntmps19
  go_upto_region 1 with fail
  rw [← hw0, ← hhr]
  clear hw0 hhr
  go_wp2
  go_loopw [3, 4] (fun s3 s4 wr => ∃ (i : Nat) (A' : Option Addr) (c' : Nat), i ≤ n ∧ s3 = .slice A' (by2 (g.take i)).length c' ∧ s4 = .int .i64 (i : Int) ∧ Bx (Made w0 wr (.slice A' (by2 (g.take i)).length c') (by2 (g.take i)))) (fun _ s4 _ => n - (intOf s4).toNat)
  case atStart => exact ⟨0, none, 0, by omega, rfl, rfl, h0⟩
  case round =>
    clear h0
    obtain ⟨i, A', c', hi, rfl, rfl, HM⟩ := hrel
    by_cases hin : i < n
    · obtain ⟨v, hv0⟩ : ∃ v, g[i]? = some v := ⟨_, List.getElem?_eq_getElem (by rw [HN.out]; exact hin)⟩
      have hv16 := HLT.out v (List.mem_of_getElem? hv0)
      have hcell := cell_kept (HC.out i v hv0) (HB0.out.trans (HM.out.below.mono HB0.out.size))
      have hbl : (by2 (g.take i)).length = 2 * i := by rw [by2_len, List.length_take, HN.out]; omega
      have hst : by2 (g.take (i + 1)) = by2 (g.take i) ++ [UInt8.ofNat (v / 256), UInt8.ofNat (v % 256)] := by
        rw [List.take_add_one, hv0, by2_append]; rfl
      obtain ⟨x, hx⟩ : ∃ x, UInt8.ofNat (v / 256) = x := ⟨_, rfl⟩
      obtain ⟨y, hy⟩ : ∃ y, UInt8.ofNat (v % 256) = y := ⟨_, rfl⟩
      have e1 : IntKind.u8.wrap ((v : Int) / 256) = (x.toNat : Int) := by rw [← hx, byte_is (by omega), IntKind.wrap_u8]; omega
      have e2 : IntKind.u8.wrap (v : Int) = (y.toNat : Int) := by rw [← hy, byte_is (by omega), IntKind.wrap_u8]; omega
      rw [hx, hy] at hst
      have hmd := HM.out.still (Still.drew1 wr)
      obtain ⟨A2, c2, w2, happ, hmd2⟩ := hmd.app ((Below.refl _ wr.drew).alloc (Nat.le_refl _) (.cells #[.int .u8 (x.toNat : Int), .int .u8 (y.toNat : Int)] 5)) (lit2_src wr.drew x y) (by omega)
      have hl2 : (by2 (g.take (i + 1))).length = (by2 (g.take i)).length + 2 := by rw [hst, List.length_append]; rfl
      rw [← hst, ← hl2] at hmd2
      rw [← hl2] at happ
      have HAP := Bx.mk happ
      have HMD := Bx.mk hmd2
      clear happ hmd2 hmd hl2 hst hx hy hv0 hbl
      go_wp2
      go_region_law (refine step_append_eq rfl _ _ 69 69 rfl rfl (by simp [Act.eval]) (by simp [Act.eval]) HAP.out ?_)
      all_goals
        go_wp2
        go_roundw
        case rel => exact ⟨i + 1, A2, c2, by omega, rfl, by go_num, HMD⟩
        case measure => simp [intOf]; omega
    · have htk : g.take i = g := List.take_of_length_le (by rw [HN.out]; omega)
      rw [htk] at HM ⊢
      have hconv := spell_str (own_spell HM.out.own)
      have hl := L0.out.below HM.out.below L0.out.lt
      have g0 := hl.frozen 0
      have g1 := hl.frozen 1
      have r0 := hl.cell 0
      have r1 := hl.cell 1
      simp at r0 r1
      have HN1 := Bx.mk ((hl.set 0 (.int .u8 2)).set 1 (.string (S (by2 g))))
      have HN2 := Bx.mk (((HB0.out.trans (HM.out.below.mono HB0.out.size)).setCell (p := ⟨hr, 0, none⟩) hrw (.int .u8 2)).setCell (p := ⟨hr, 1, none⟩) hrw (.string (S (by2 g))))
      clear hl htk
      go_wp2
      exact bodyPost_ret (v := hv 2 (S (by2 g))) (results_six HN1.out _ rfl) rfl ⟨rfl, HN2.out⟩

set_option maxRecDepth 100000 in
set_option maxHeartbeats 1600000 in
theorem lnone_any {w : World} {blk n : Nat} {l : List Str} (hn : l.length = n) (hn8 : n ≤ 100) (hblk : blk < w.heap.size) (he : Env w) (hc : ∀ (j : Nat) (x : Str), l[j]? = some x → w.cell? ⟨blk, j, none⟩ = some (.string (S x))) (hno : ∀ x ∈ l, parse x = none ∧ x.length ≤ 100) :
    Calls Tryz.prog 34 #[.slice (some ⟨blk, 0, none⟩) n n] w (Gives (.bool true) w) := by
  have HN := Bx.mk hn
  have HC := Bx.mk hc
  have HNO := Bx.mk hno
  have HBK := Bx.mk hblk
  have HE := Bx.mk he
  have h0 : Bx (Below w.heap.size w w) := ⟨Below.refl _ _⟩
  clear hn hc hno hblk he
  go_enter Tryz.func34, Tryz.ntmps34
  go_wp2
  go_loopw [3] (fun s3 wr => ∃ i : Nat, i ≤ n ∧ s3 = .int .i64 (i : Int) ∧ Bx (Below w.heap.size w wr)) (fun s3 _ => n - (intOf s3).toNat)
  case atStart => exact ⟨0, by omega, rfl, h0⟩
  case round =>
    clear h0
    obtain ⟨i, hi, rfl, HB⟩ := hrel
    by_cases hin : i < n
    · obtain ⟨x, hx⟩ : ∃ x, l[i]? = some x := ⟨_, List.getElem?_eq_getElem (by rw [HN.out]; exact hin)⟩
      obtain ⟨hp, hxl⟩ := HNO.out x (List.mem_of_getElem? hx)
      have hcell := cell_kept (HC.out i x hx) HB.out
      have hpp := parse_any (S x) (by rw [S_size]; omega) wr (HE.out.below HB.out)
      rw [S_list, hp] at hpp
      unfold HPv at hpp
      dsimp only at hpp
      have HPP := Bx.mk hpp
      clear hpp hx hp
      go_wp2_with fail
      refine HPP.out.mono ?_
      rintro e w3 ⟨rfl, hb3⟩
      have hb4 := (hb3.trans (((Below.refl _ w3).alloc (Nat.le_refl _) (.cells #[.int .u8 0, .string ⟨#[]⟩] 23)).mono hb3.size))
      have HB4 := Bx.mk (HB.out.trans (hb4.mono HB.out.size))
      unfold hv
      have l5 := Lies.new w3 23 #[.int .u8 0, .string ⟨#[]⟩]
      have d0 := l5.cell 0
      have d1 := l5.cell 1
      simp at d0 d1
      clear l5 hb3 hb4
      go_wp2_with fail
      go_roundw
      case rel => exact ⟨i + 1, by omega, by go_num, HB4⟩
      case measure => simp [intOf]; omega
    · go_wp2
      go_ret
      exact ⟨rfl, HB.out⟩
end Go.Proofs.YtpllhnknejceiaaGreatDoor.hw
