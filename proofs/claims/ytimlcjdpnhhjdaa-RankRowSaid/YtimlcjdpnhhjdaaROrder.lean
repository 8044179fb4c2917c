/-
  Given for the seat's laws: the contract of Order. No condition but those of the theorems.
-/
import Derived.Test.YtimlcjdpnhhjdaaROrd0
import Derived.Deep.RegionWith
import Derived.Deep.CutBlock
import Derived.Deep.DeepCutAuto
namespace Go.Proofs.Ytimlcjdpnhhjdaa.rk
open Go.RowKit mem sp
open Go.Sort (grow swp PermIn SortedIn)
set_option linter.unusedVariables false

structure AW (W w1 : World) (k0 k1 : W64) (wx : World) : Prop where
  hal : Lies wx w1.heap.size 49 (two k0 k1)
  sz : wx.heap.size = w1.heap.size + 1
  below : Below W.heap.size W wx
def OrdTo (S : Nat → Sc) (N : Nat) (W : World) (e : Ending) (w' : World) : Prop :=
  ∃ (o : List Nat) (g : Nat), e = .returned (.slice (some ⟨g, 0, none⟩) N N) ∧ Ord S N o ∧ Lies w' g 3 (nats o).toArray ∧ W.heap.size ≤ g ∧ Below W.heap.size W w'

set_option maxHeartbeats 4000000 in
set_option maxRecDepth 100000 in
theorem order_any {W : World} {okk okn okw : Nat → Prop} {A B C : Option Addr} {n c m cm q cq N : Nat} {key : Str} {l : List Str} {ws : List Int}
    (hs : Spell W okk A n c key) (hokk : ∀ g, okk g → g < W.heap.size) (hl : l.length = m) (hln : RowAt W okn B (strs l)) (hokn : ∀ g, okn g → g < W.heap.size) (hll : ∀ x ∈ l, x.length ≤ 100000)
    (hw : ws.length = q) (hwn : RowAt W okw C (intv ws)) (hokw : ∀ g, okw g → g < W.heap.size) (hN : min m q = N) (hN16 : N ≤ 16) :
    Calls Try.prog 14 #[.slice A n c, .slice B m cm, .slice C q cq] W (OrdTo (Sfn key l ws) N W) := by
  have HH := Bx.mk (halves_any hs hokk)
  unfold HalfTo at HH
  have HD : Bx (∀ (x : Str) (z : Int), x.length ≤ 100000 → ∀ Wx, Calls Try.prog 23 #[hv (hk 0 key) (hk 1 key), .string (S x), .int .i64 z] Wx (ScTo (scoK key x z) Wx)) := ⟨fun x z hx Wx => by
    unfold scoK
    exact (if h : 100 < z then scoreOf_great (hk 0 key) (hk 1 key) x z hx h Wx else scoreOf_small (hk 0 key) (hk 1 key) x z hx (by omega) Wx)⟩
  have HSF : Bx (∀ j x z, l[j]? = some x → ws[j]? = some z → Sfn key l ws j = scoK key x z) := ⟨fun j x z hx hz => by
    unfold Sfn
    rw [List.getD_eq_getElem?_getD, List.getD_eq_getElem?_getD, hx, hz]
    rfl⟩
  have HC : Bx (∀ j x, l[j]? = some x → ∃ g off, B = some ⟨g, off, none⟩ ∧ ∀ Wx, Below W.heap.size W Wx → Wx.cell? ⟨g, off + j, none⟩ = some (.string (S x))) := ⟨fun j x hx => by
    obtain ⟨g, off, e, ho, hc⟩ := hln.cell (strs_get hx)
    exact ⟨g, off, e, fun Wx hWx => cell_kept hc hWx⟩⟩
  have HCW : Bx (∀ j z, ws[j]? = some z → ∃ g off, C = some ⟨g, off, none⟩ ∧ ∀ Wx, Below W.heap.size W Wx → Wx.cell? ⟨g, off + j, none⟩ = some (.int .i64 z)) := ⟨fun j z hz => by
    obtain ⟨g, off, e, ho, hc⟩ := hwn.cell (intv_get hz)
    exact ⟨g, off, e, fun Wx hWx => cell_kept hc hWx⟩⟩
  have HXL := Bx.mk hll
  have HLM := Bx.mk hl
  have HWQ := Bx.mk hw
  generalize Sfn key l ws = SS at *
  generalize hk 0 key = k0 at *
  generalize hk 1 key = k1 at *
  have HNM := Bx.mk hN
  clear hs hokk hl hln hokn hll hw hwn hokw hN
  go_enter Try.func14, Try.ntmps14
  go_wp2_with fail
  refine HH.out.mono ?_
  rintro e w1 ⟨rfl, hb1⟩
  have HB1 := Bx.mk hb1
  have HA1 : Bx (AW W w1 k0 k1 (w1.alloc (.cells (two k0 k1) 49))) := ⟨⟨Lies.new w1 49 (two k0 k1), by simp, hb1.alloc hb1.size _⟩⟩
  clear hb1 HH
  go_upto_region 2 with fail
  go_cut [8] (fun s8 wx => s8 = .int .i64 (N : Int) ∧ Bx (AW W w1 k0 k1 wx))
  case first =>
    by_cases hq : q < m
    · have hqz : (q : Int) < (m : Int) := by omega
      have hqN : q = N := by have := HNM.out; omega
      have HQN := Bx.mk hqN
      clear hqN hq
      go_wp2
      all_goals
        go_meet
        exact ⟨by rw [HQN.out], HA1⟩
    · have hqz : (m : Int) ≤ (q : Int) := by omega
      have hqN : m = N := by have := HNM.out; omega
      have HQN := Bx.mk hqN
      clear hqN hq
      go_wp2
      all_goals
        go_meet
        exact ⟨by rw [HQN.out], HA1⟩
  case rest =>
    obtain ⟨rfl, HA⟩ := hcut
    clear HA1
    have mk1 := fun w => mk_scores (N := N) (by omega) w
    have mk2 := fun w => mk_ints (N := N) (by omega) w
    have h0 : Bx (OW W w1.heap.size wc.heap.size (wc.heap.size + 1) N k0 k1 SS 0 0 ((wc.alloc (.cells (madeCells #[.bool false, .int .u64 0] (N * 2)) 47)).alloc (.cells (madeCells #[.int .i64 0] N) 3))) := by
      have hsz := HA.out.sz
      have hbs := HB1.out.size
      refine ⟨(HA.out.hal.alloc _).alloc _, (made_scores wc SS N).alloc _, ?_, (HA.out.below.alloc HA.out.below.size _).alloc (by simp; have := HA.out.below.size; omega) _, hbs, by omega, by omega⟩
      have := made_ints (wc.alloc (.cells (madeCells #[.bool false, .int .u64 0] (N * 2)) 47)) N
      simpa using this
    generalize madeCells #[.bool false, .int .u64 0] (N * 2) = z1 at *
    generalize madeCells #[.int .i64 0] N = z2 at *
    go_wp2
    go_loopw [11, 24] (fun s11 s24 wr => ∃ i : Nat, i ≤ N ∧ s24 = .int .i64 (i : Int) ∧ Bx (OW W w1.heap.size wc.heap.size (wc.heap.size + 1) N k0 k1 SS i i wr)) (fun _ s24 _ => N - (intOf s24).toNat)
    case atStart => exact ⟨0, by omega, rfl, h0⟩
    case round =>
      clear h0
      obtain ⟨i, hi, rfl, HO⟩ := hrel
      by_cases hlt : i < N
      · obtain ⟨x, hx⟩ : ∃ x, l[i]? = some x := ⟨_, List.getElem?_eq_getElem (by have := HNM.out; have := HLM.out; omega)⟩
        obtain ⟨z, hz⟩ : ∃ z, ws[i]? = some z := ⟨_, List.getElem?_eq_getElem (by have := HNM.out; have := HWQ.out; omega)⟩
        obtain ⟨g1, o1, rfl, hc1⟩ := HC.out i x hx
        obtain ⟨g2, o2, rfl, hc2⟩ := HCW.out i z hz
        have hS := HSF.out i x z hx hz
        have HDI := Bx.mk (HD.out x z (HXL.out x (List.mem_of_getElem? hx)))
        obtain ⟨s, hs⟩ : ∃ s, scoK key x z = s := ⟨_, rfl⟩
        rw [hs] at hS HDI
        obtain ⟨sh, st⟩ := s
        unfold ScTo at HDI
        have HSI := Bx.mk hS
        have n1 : i < m := by have := HNM.out; omega
        have n2 : i < q := by have := HNM.out; omega
        have i0 : (0 : Int) ≤ (i : Int) := by omega
        have i1 : (i : Int) < (m : Int) := by omega
        have i2 : (i : Int) < (q : Int) := by omega
        have i3 : (i : Int) < (N : Int) := by omega
        have c1 := hc1 wr HO.out.below
        have c2 := hc2 wr HO.out.below
        have d0 := HO.out.hal.cell 0
        have d1 := HO.out.hal.cell 1
        simp at d0 d1
        have HO1 := Bx.mk HO.out.drew
        have HC1 := Bx.mk hc1
        have HC2 := Bx.mk hc2
        clear hx hz hS hs hc1 hc2 HO n1 n2
        go_upto_region 8 with fail
        go_region_with (first | (go_at_call 23; refine (HDI.out _).mono ?_; rintro e w2 ⟨rfl, hb2⟩; have H2 := HO1.out.fresh hb2; have t0 := H2.sc.cell (i := i * 2) (by omega); have t1 := H2.sc.cell (i := i * 2 + 1) (by omega); have f0 := H2.sc.frozen (i * 2); have f1 := H2.sc.frozen (i * 2 + 1); have y1 := HC1.out w2 H2.below; have y2 := HC2.out w2 H2.below))
        all_goals
          have H3 := Bx.mk (H2.store hlt HSI.out)
          generalize ((w2.setCell ⟨wc.heap.size, i * 2, none⟩ (.bool sh)).setCell ⟨wc.heap.size, i * 2 + 1, none⟩ (.int .u64 st)) = w3 at *
          clear H2 t0 t1 f0 f1 y1 y2 hb2
          have r0 := H3.out.ord.cell hlt
          have r1 := H3.out.ord.frozen i
          have H4 := Bx.mk (H3.out.put hlt)
          go_wp2
          go_roundw
          case rel => exact ⟨i + 1, by omega, by go_num, H4⟩
          case measure => simp [intOf]; omega
      · obtain rfl : i = N := by omega
        have hss := HO.out.ss
        have HSR := Bx.mk (sort_any (d := Array.range i) (HO.out.sc.lt) (by omega) hN16 hss (by simp) (by simpa using List.nodup_range))
        clear hss mk1 mk2
        go_wp2_with fail
        refine HSR.out.mono ?_
        rintro e w5 ⟨f, rfl, hp, ho, hs5⟩
        have HORD := Bx.mk (ord_of hp ho)
        have HS5 := Bx.mk hs5
        clear hp ho hs5 HSR
        go_wp2
        go_ret
        refine ⟨f.toList, wc.heap.size + 1, rfl, HORD.out, ?_, ?_, ?_⟩
        · have := HS5.out.row
          have e : rowc f = (nats f.toList).toArray := by rw [← nats_rowc]
          rw [e] at this
          exact this
        · have := HO.out.ne; omega
        · have hk := HS5.out.keep
          exact HO.out.below.trans (hk.below HO.out.below.size (fun k hk' e => by have := HO.out.ne; omega))
end Go.Proofs.Ytimlcjdpnhhjdaa.rk
