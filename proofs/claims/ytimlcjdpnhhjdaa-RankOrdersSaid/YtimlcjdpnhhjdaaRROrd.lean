/-
  Given for the seat's laws: the contract of the document's Order. No condition but those of the theorems.
-/
import Derived.Test.YtimlcjdpnhhjdaaRROrd0
import Derived.Test.YtimlcjdpnhhjdaaROrd0
import Derived.Deep.RegionWith
import Derived.BigQuiet
import Derived.Deep.CutBlock
import Derived.Deep.DeepCutAuto
namespace Go.Proofs.Ytimlcjdpnhhjdaa.rk
open Go.RowKit mem sp
set_option linter.unusedVariables false

def ROrdTo (S : Nat → Sc) (N : Nat) (w : World) (e : Ending) (w' : World) : Prop := ∃ (o : List Nat) (A : Option Addr) (c : Nat), e = .returned (.slice A N c) ∧ Ord S N o ∧ MadeR 3 w w' (.slice A N c) (nats o)
/-- the best so far of those that are left -/
structure Best (S : Nat → Sc) (o : List Nat) (i : Nat) (b : Int) : Prop where
  is : (b = -1 ∧ ∀ j, j < i → j ∈ o) ∨ ∃ k : Nat, b = (k : Int) ∧ k < i ∧ k ∉ o ∧ ∀ c, c < i → c ∉ o → c ≠ k → before S k c = true
theorem Best.skip {S : Nat → Sc} {o : List Nat} {i : Nat} {b : Int} (h : Best S o i b) (hi : i ∈ o) : Best S o (i + 1) b := ⟨by
  rcases h.is with ⟨e, hall⟩ | ⟨k, e, hk, hn, hm⟩
  · exact .inl ⟨e, fun j hj => by
      by_cases h2 : j = i
      · subst h2; exact hi
      · exact hall j (by omega)⟩
  · exact .inr ⟨k, e, by omega, hn, fun c hc hco hck => by
      by_cases h2 : c = i
      · subst h2; exact absurd hi hco
      · exact hm c (by omega) hco hck⟩⟩
theorem Best.first {S : Nat → Sc} {o : List Nat} {i : Nat} (hall : ∀ j, j < i → j ∈ o) (hi : i ∉ o) : Best S o (i + 1) (i : Int) := ⟨.inr ⟨i, rfl, by omega, hi, fun c hc hco hck => absurd (hall c (by omega)) hco⟩⟩
theorem Best.take {S : Nat → Sc} {o : List Nat} {i k : Nat} (hn : k ∉ o) (hm : ∀ c, c < i → c ∉ o → c ≠ k → before S k c = true) (hk : k < i) (hi : i ∉ o) (hb : before S i k = true) : Best S o (i + 1) (i : Int) := ⟨.inr ⟨i, rfl, by omega, hi, fun c hc hco hck => by
  by_cases e : c = k
  · subst e; exact hb
  · exact before_trans hb (hm c (by omega) hco e)⟩⟩
theorem Best.stay {S : Nat → Sc} {o : List Nat} {i k : Nat} (hn : k ∉ o) (hm : ∀ c, c < i → c ∉ o → c ≠ k → before S k c = true) (hk : k < i) (hb : before S i k = false) : Best S o (i + 1) (k : Int) := ⟨.inr ⟨k, rfl, by omega, hn, fun c hc hco hck => by
  by_cases e : c = i
  · subst e
    exact (before_total k c (by omega)).resolve_right (by rw [hb]; simp)
  · exact hm c (by omega) hco hck⟩⟩
theorem length_le_of_nodup : ∀ {a b : List Nat}, a.Nodup → (∀ x ∈ a, x ∈ b) → a.length ≤ b.length
  | [], b, _, _ => Nat.zero_le _
  | x :: a, b, hn, hs => by
    have hx : x ∈ b := hs x (by simp)
    have h1 := length_le_of_nodup (a := a) (b := b.erase x) (List.nodup_cons.1 hn).2 (fun y hy => by
      have hne : y ≠ x := fun e => (List.nodup_cons.1 hn).1 (e ▸ hy)
      exact (List.mem_erase_of_ne hne).2 (hs y (by simp [hy])))
    rw [List.length_erase_of_mem hx] at h1
    have : 0 < b.length := List.length_pos_of_mem hx
    simp only [List.length_cons]
    omega
theorem Best.found {S : Nat → Sc} {o : List Nat} {N : Nat} {b : Int} (h : Best S o N b) (hs : Sel S N o) (hl : o.length < N) : ∃ k : Nat, b = (k : Int) ∧ k < N ∧ k ∉ o ∧ Sel S N (o ++ [k]) := by
  rcases h.is with ⟨e, hall⟩ | ⟨k, e, hk, hn, hm⟩
  · exfalso
    have : List.range N ⊆ o := fun j hj => hall j (List.mem_range.1 hj)
    have h2 : ∀ a ∈ List.range N, a ∈ o := this
    have h3 : N ≤ o.length := by
      have := (List.nodup_range (n := N))
      simpa using length_le_of_nodup this h2
    omega
  · exact ⟨k, e, hk, hn, hs.add hk hn (fun c hc hco hck => hm c hc hco hck)⟩

theorem QS.take {W wr : World} {S : Nat → Sc} {N k n : Nat} {o : List Nat} {v7 v8 vo : Value} {A9 : Option Addr} {c9 : Nat} (h : QS W S N o v7 v8 (.slice A9 N c9) wr) (ho : MadeR 3 W wr vo (nats o)) (hk : k < N) (hn : o.length = n) (hn2 : n ≤ 1000) :
    ∃ g9 old A c w3, A9 = some ⟨g9, 0, none⟩ ∧ wr.cell? ⟨g9, k, none⟩ = some old ∧ wr.frozen? ⟨g9, k, none⟩ = false ∧
      (Builtin.append_ #[30, 30] 30 #[vo, .slice (some ⟨wr.heap.size, 0, none⟩) 1 1]).run Try.prog ((wr.setCell ⟨g9, k, none⟩ (.bool true)).alloc (.cells #[.int .i64 (k : Int)] 3)) = .ok (.slice A (n + 1 : Nat) c) w3 ∧
      QS W S N (o ++ [k]) v7 v8 (.slice A9 N c9) w3 ∧ MadeR 3 W w3 (.slice A (n + 1 : Nat) c) (nats (o ++ [k])) := by
  obtain ⟨g9, old, rfl, hc, hf, hg, hd⟩ := h.dn.setAt (dnl_len o N) hk (.bool true)
  rw [dnl_set hk] at hd
  have s7 := h.sc.far (i := k) hg (fun e => h.sc.apart h.dn (by decide) e rfl) (.bool true)
  have s8 := h.hs.far (i := k) hg (fun e => h.ap g9 e rfl) (.bool true)
  have so := ho.far (i := k) hg (fun e => ho.apart h.dn (by decide) e rfl) (.bool true)
  obtain ⟨A, c, w3, r, m, kp, -⟩ := so.push2 kInt (.int .i64 (k : Int)) rfl (n := n) (by rw [nats_len]; exact hn) (by omega) (by unfold maxLen; omega)
  have en : nats (o ++ [k]) = nats o ++ [.int .i64 (k : Int)] := by simp [nats]
  rw [World.size_setCell] at r
  rw [← en] at m
  refine ⟨g9, old, A, c, w3, rfl, hc, hf, r, ⟨?_, ?_, ?_, h.ap⟩, m⟩
  · exact ⟨rown_same s7.own (fun g hg' => kp g (rown_lt s7.own hg').2 (s7.apart so (by decide) hg')), m.below⟩
  · exact ⟨rown_same s8.own (fun g hg' => kp g (rown_lt s8.own hg').2 (s8.apart so (by decide) hg')), m.below⟩
  · exact ⟨rown_same hd.own (fun g hg' => kp g (rown_lt hd.own hg').2 (hd.apart so (by decide) hg')), m.below⟩
def lenV : Value → Nat
  | .slice _ k _ => k
  | _ => 0

set_option maxHeartbeats 4000000 in
set_option maxRecDepth 100000 in
theorem rorder_any {W : World} {okk okn okw : Nat → Prop} {A B C : Option Addr} {n c m cm q cq N : Nat} {key : Str} {l : List Str} {ws : List Int}
    (hs : Spell W okk A n c key) (hokk : ∀ g, okk g → g < W.heap.size) (hn : n ≤ 100000) (hl : l.length = m) (hln : RowAt W okn B (strs l)) (hll : ∀ x ∈ l, x.length ≤ 1000)
    (hw : ws.length = q) (hwn : RowAt W okw C (intv ws)) (hN : min m q = N) (hN16 : N ≤ 16) :
    Calls Try.prog 16 #[.slice A n c, .slice B m cm, .slice C q cq] W (ROrdTo (Sfn key l ws) N W) := by
  have HSC : Bx (∀ (x : Str) (z : Int), x.length ≤ 1000 → ∀ Wx, Below W.heap.size W Wx → Calls Try.prog 11 #[.slice A n c, .string (S x), .int .i64 z] Wx (TellTo2 (scoK key x z) Wx)) := ⟨fun x z hx Wx hW => rscore_any (hs.below hW hokk) (fun g hg => Nat.lt_of_lt_of_le (hokk g hg) hW.size) hn x hx z⟩
  have HSF : Bx (∀ j x z, l[j]? = some x → ws[j]? = some z → Sfn key l ws j = scoK key x z) := ⟨fun j x z hx hz => by
    unfold Sfn
    rw [List.getD_eq_getElem?_getD, List.getD_eq_getElem?_getD, hx, hz]
    rfl⟩
  have HC : Bx (∀ j x, l[j]? = some x → ∃ g off, B = some ⟨g, off, none⟩ ∧ ∀ Wx, Below W.heap.size W Wx → Wx.cell? ⟨g, off + j, none⟩ = some (.string (S x))) := ⟨fun j x hx => by
    obtain ⟨g, off, e, ho, hc⟩ := hln.cell (strs_get hx)
    exact ⟨g, off, e, fun Wx hWx => cell_kept hc hWx⟩⟩
  have HCW : Bx (∀ j z, ws[j]? = some z → ∃ g off, C = some ⟨g, off, none⟩ ∧ ∀ Wx, Below W.heap.size W Wx → Wx.cell? ⟨g, off + j, none⟩ = some (.int .i64 z)) := ⟨fun j z hz => by
    obtain ⟨g, off, e, ho, hc⟩ := hwn.cell (intv_get hz)
    exact ⟨g, off, e, fun Wx hWx => cell_kept hc hWx⟩⟩
  have HXL := Bx.mk hll
  have HLM := Bx.mk hl
  have HWQ := Bx.mk hw
  have HNM := Bx.mk hN
  generalize Sfn key l ws = SS at *
  have h0 := Bx.mk (QS.start W SS)
  clear hs hokk hl hln hll hw hwn hN
  go_enter Try.func16, Try.ntmps16
  go_upto_block 0 with fail
  go_cut [7, 8, 9] (fun s7 s8 s9 wx => ∃ (A7 : Option Addr) (c7 : Nat) (A8 : Option Addr) (c8 : Nat) (A9 : Option Addr) (c9 : Nat), s7 = .slice A7 N c7 ∧ s8 = .slice A8 N c8 ∧ s9 = .slice A9 N c9 ∧ Bx (QS W SS N [] (.slice A7 N c7) (.slice A8 N c8) (.slice A9 N c9) wx))
  case first =>
    go_wp2_with fail
    go_loopw [7, 8, 9, 10, 11, 12] (fun s7 s8 s9 s10 s11 s12 wr => ∃ (i : Nat) (A7 : Option Addr) (c7 : Nat) (A8 : Option Addr) (c8 : Nat) (A9 : Option Addr) (c9 : Nat), i ≤ N ∧ s7 = .slice A7 i c7 ∧ s8 = .slice A8 i c8 ∧ s9 = .slice A9 i c9 ∧ s10 = .int .i64 (i : Int) ∧ Bx (QS W SS i [] (.slice A7 i c7) (.slice A8 i c8) (.slice A9 i c9) wr)) (fun _ _ _ s10 _ _ _ => N - (intOf s10).toNat)
    case atStart => exact ⟨0, none, 0, none, 0, none, 0, by omega, rfl, rfl, rfl, rfl, h0⟩
    case round =>
      clear h0
      obtain ⟨i, A7, c7, A8, c8, A9, c9, hi, rfl, rfl, rfl, rfl, HQ⟩ := hrel
      by_cases hlt : i < N
      · obtain ⟨x, hx⟩ : ∃ x, l[i]? = some x := ⟨_, List.getElem?_eq_getElem (by have := HNM.out; have := HLM.out; omega)⟩
        obtain ⟨z, hz⟩ : ∃ z, ws[i]? = some z := ⟨_, List.getElem?_eq_getElem (by have := HNM.out; have := HWQ.out; omega)⟩
        obtain ⟨g1, o1, rfl, hc1⟩ := HC.out i x hx
        obtain ⟨g2, o2, rfl, hc2⟩ := HCW.out i z hz
        have hS := HSF.out i x z hx hz
        have HDI := Bx.mk (HSC.out x z (HXL.out x (List.mem_of_getElem? hx)))
        unfold TellTo2 at HDI
        rw [← hS] at HDI
        have i0 : (0 : Int) ≤ (i : Int) := by omega
        have i1 : (i : Int) < (m : Int) := by have := HNM.out; omega
        have i2 : (i : Int) < (q : Int) := by have := HNM.out; omega
        have c1 := hc1 wr HQ.out.sc.below
        have c2 := hc2 wr HQ.out.sc.below
        have HQD := Bx.mk (HQ.out.fresh ((Below.refl _ _).drew))
        have HC1 := Bx.mk hc1
        have HC2 := Bx.mk hc2
        clear hx hz hS hc1 hc2 HQ
        go_upto_region 6 with fail
        go_region_held3 (fun W' => W'.cell? ⟨g1, o1 + i, none⟩ = some (.string (S x)) ∧ W'.cell? ⟨g2, o2 + i, none⟩ = some (.int .i64 z))
          (first | exact ⟨c1, c2⟩ | exact ⟨m1, m2⟩)
          (first | (go_at_call 11; refine (HDI.out _ HQD.out.sc.below).mono ?_; rintro e w2 ⟨rfl, hb2⟩; have HQ2 := HQD.out.fresh hb2; have m1 := HC1.out _ HQ2.sc.below; have m2 := HC2.out _ HQ2.sc.below))
        all_goals
          obtain ⟨A7', c7', A8', c8', A9', c9', wa, wb, wc, r1, r2, r3, hq3⟩ := HQ2.add (show i ≤ 1000 by omega)
          have R1 := Bx.mk r1
          have R2 := Bx.mk r2
          have R3 := Bx.mk r3
          have HQ3 := Bx.mk hq3
          generalize (SS i).top = tp at *
          generalize (SS i).has = hp at *
          clear HQ2 m1 m2 r1 r2 r3 hq3 HQD HDI HC1 HC2 c1 c2 hb2
          go_wp2_with (first | (at_builtin; refine wpList_append_g rfl _ _ rfl rfl rfl rfl R1.out ?_) | (at_builtin; refine wpList_append_g rfl _ _ rfl rfl rfl rfl R2.out ?_) | (at_builtin; refine wpList_append_g rfl _ _ rfl rfl rfl rfl R3.out ?_))
          go_roundw
          case rel => exact ⟨i + 1, A7', c7', A8', c8', A9', c9', by omega, rfl, rfl, rfl, by go_num, HQ3⟩
          case measure => simp [intOf]; omega
      · obtain rfl : i = N := by omega
        have hstop : m ≤ i ∨ q ≤ i := by have := HNM.out; omega
        rcases hstop with hst | hst
        · have hz1 : (m : Int) ≤ (i : Int) := by omega
          have hz1d : decide ((i : Int) < (m : Int)) = false := decide_eq_false (by omega)
          clear hst
          go_wp2
          go_meet
          exact ⟨A7, c7, A8, c8, A9, c9, rfl, rfl, rfl, HQ⟩
        · have hz1 : (q : Int) ≤ (i : Int) := by omega
          have hz1d : decide ((i : Int) < (q : Int)) = false := decide_eq_false (by omega)
          clear hst
          by_cases him : i < m
          · have hz2 : (i : Int) < (m : Int) := by omega
            clear him
            go_wp2
            go_meet
            exact ⟨A7, c7, A8, c8, A9, c9, rfl, rfl, rfl, HQ⟩
          · have hz2 : (m : Int) ≤ (i : Int) := by omega
            clear him
            go_wp2
            go_meet
            exact ⟨A7, c7, A8, c8, A9, c9, rfl, rfl, rfl, HQ⟩
  case rest =>
    obtain ⟨A7, c7, A8, c8, A9, c9, rfl, rfl, rfl, HQ0⟩ := hcut
    clear h0 HC HCW HSC HSF HXL HLM HWQ HNM
    have h1 : Bx (QS W SS N [] (.slice A7 N c7) (.slice A8 N c8) (.slice A9 N c9) wc ∧ MadeR 3 W wc (.slice none (0 : Nat) 0) (nats []) ∧ Sel SS N []) := ⟨⟨HQ0.out, ⟨World.ownsRow_nil wc _ _ _, HQ0.out.sc.below⟩, Sel.nil⟩⟩
    go_wp2
    go_loopw [13, 14, 15] (fun s13 s14 s15 wr => ∃ (o : List Nat) (k : Nat) (Ao : Option Addr) (co : Nat), k ≤ N ∧ s13 = .slice Ao k co ∧ Bx (o.length = k) ∧ Bx (QS W SS N o (.slice A7 N c7) (.slice A8 N c8) (.slice A9 N c9) wr ∧ MadeR 3 W wr (.slice Ao k co) (nats o) ∧ Sel SS N o)) (fun s13 _ _ _ => N - lenV s13)
    case atStart => exact ⟨[], 0, none, 0, by omega, rfl, ⟨rfl⟩, h1⟩
    case round =>
      clear h1 HQ0
      obtain ⟨o, k, Ao, co, hk, rfl, HK, HZ⟩ := hrel
      by_cases hlt : k < N
      · go_wp2
        go_loopw [14, 15] (fun s14 s15 wr2 => ∃ (i : Nat) (b : Int), i ≤ N ∧ s14 = .int .i64 b ∧ s15 = .int .i64 (i : Int) ∧ Bx (Best SS o i b) ∧ Bx (QS W SS N o (.slice A7 N c7) (.slice A8 N c8) (.slice A9 N c9) wr2 ∧ MadeR 3 W wr2 (.slice Ao k co) (nats o))) (fun _ s15 _ => N - (intOf s15).toNat)
        case atStart => exact ⟨0, -1, by omega, rfl, rfl, ⟨⟨.inl ⟨rfl, fun j hj => by omega⟩⟩⟩, ⟨⟨HZ.out.1, HZ.out.2.1⟩⟩⟩
        case round =>
          have HSEL := Bx.mk HZ.out.2.2
          clear HZ
          obtain ⟨i, b, hi, rfl, rfl, HB, HQ⟩ := hrel
          by_cases hin : i < N
          · obtain ⟨g9, e9, d9⟩ := HQ.out.1.dn.cellAt (dnl_len o N) (dnl_get (o := o) hin)
            have i0 : (0 : Int) ≤ (i : Int) := by omega
            have i1 : (i : Int) < (N : Int) := by omega
            obtain ⟨rfl⟩ : Bx (A9 = some ⟨g9, 0, none⟩) := ⟨e9⟩
            by_cases hio : i ∈ o
            · have hd : decide (i ∈ o) = true := decide_eq_true hio
              rw [hd] at d9
              have HB2 := Bx.mk (HB.out.skip hio)
              clear hio hd HB
              go_wp2
              go_roundw
              case rel => exact ⟨i + 1, b, by omega, rfl, by go_num, HB2, HQ⟩
              case measure => simp [intOf]; omega
            · have hd : decide (i ∈ o) = false := decide_eq_false hio
              rw [hd] at d9
              obtain ⟨g8, e8, c8i⟩ := HQ.out.1.hs.cellAt (hsl_len SS N) (hsl_get (S := SS) hin)
              obtain ⟨g7, e7, c7i⟩ := HQ.out.1.sc.cellAt (scl_len SS N) (scl_get (S := SS) hin)
              obtain ⟨rfl⟩ : Bx (A8 = some ⟨g8, 0, none⟩) := ⟨e8⟩
              obtain ⟨rfl⟩ : Bx (A7 = some ⟨g7, 0, none⟩) := ⟨e7⟩
              rcases HB.out.is with ⟨hb, hall⟩ | ⟨kk, hb, hkk, hkn, hkm⟩
              · subst hb
                have HB2 := Bx.mk (Best.first (S := SS) hall hio)
                clear hall hio hd HB
                go_wp2_with fail
                go_quiet (fail)
                have HQ9 : Bx (QS W SS N o (.slice (some ⟨g7, 0, none⟩) N c7) (.slice (some ⟨g8, 0, none⟩) N c8) (.slice (some ⟨g9, 0, none⟩) N c9) (World.drewN wr nq) ∧ MadeR 3 W (World.drewN wr nq) (.slice Ao k co) (nats o)) := ⟨⟨HQ.out.1.fresh ((Still.drewN _ nq).below _), HQ.out.2.fresh ((Still.drewN _ nq).below _)⟩⟩
                clear c8i c7i d9 HQ 
                go_wp2
                go_roundw
                case rel => first | exact ⟨i + 1, _, by omega, rfl, by go_num, HB2, HQ9⟩ | ((repeat apply Exists.intro); refine ⟨⟨i + 1, _, by omega, rfl, ?_, HB2, HQ9⟩, rfl⟩; go_num)
                case measure => (simp [intOf]) <;> omega
              · subst hb
                have hkN : kk < N := by omega
                obtain ⟨g8', e8', c8b⟩ := HQ.out.1.hs.cellAt (hsl_len SS N) (hsl_get (S := SS) hkN)
                obtain ⟨g7', e7', c7b⟩ := HQ.out.1.sc.cellAt (scl_len SS N) (scl_get (S := SS) hkN)
                cases e8'
                cases e7'
                have k0 : (0 : Int) ≤ (kk : Int) := by omega
                have k1 : (kk : Int) < (N : Int) := by omega
                have kd : decide ((kk : Int) < 0) = false := decide_eq_false (by omega)
                have hTake := Bx.mk (Best.take (S := SS) hkn hkm hkk hio)
                have hStay := Bx.mk (Best.stay (S := SS) hkn hkm hkk)
                have hbf : before SS i kk = (if (SS i).has = (SS kk).has then if (SS i).top = (SS kk).top then decide (i < kk) else decide ((SS kk).top < (SS i).top) else (SS i).has) := rfl
                have HBF := Bx.mk hbf
                generalize before SS i kk = bb at *
                generalize (SS i).has = hi1 at *
                generalize (SS i).top = ti at *
                generalize (SS kk).has = hk1 at *
                generalize (SS kk).top = tk at *
                have hik : decide (i < kk) = false := decide_eq_false (by omega)
                have HIK := Bx.mk hik
                clear hbf hkn hkm hio hd HB hik
                cases hi1 <;> cases hk1
                · -- both have none
                  by_cases hlt2 : tk < ti
                  · have hne2 : ti ≠ tk := by omega
                    have hgtd : decide (ti > tk) = true := decide_eq_true (by omega)
                    have HB2 := Bx.mk (hTake.out (by rw [HBF.out, if_pos rfl, if_neg hne2]; exact decide_eq_true hlt2))
                    clear HBF hTake hStay HIK hne2
                    go_wp2_with fail
                    go_quiet (fail)
                    have HQ9 : Bx (QS W SS N o (.slice (some ⟨g7, 0, none⟩) N c7) (.slice (some ⟨g8, 0, none⟩) N c8) (.slice (some ⟨g9, 0, none⟩) N c9) (World.drewN wr nq) ∧ MadeR 3 W (World.drewN wr nq) (.slice Ao k co) (nats o)) := ⟨⟨HQ.out.1.fresh ((Still.drewN _ nq).below _), HQ.out.2.fresh ((Still.drewN _ nq).below _)⟩⟩
                    clear c8i c7i d9 HQ c8b c7b
                    go_wp2
                    go_roundw
                    case rel => first | exact ⟨i + 1, _, by omega, rfl, by go_num, HB2, HQ9⟩ | ((repeat apply Exists.intro); refine ⟨⟨i + 1, _, by omega, rfl, ?_, HB2, HQ9⟩, rfl⟩; go_num)
                    case measure => (simp [intOf]) <;> omega
                  · have hge2 : ti ≤ tk := by omega
                    have hgtd : decide (ti > tk) = false := decide_eq_false (by omega)
                    have HB2 := Bx.mk (hStay.out (by
                      rw [HBF.out, if_pos rfl]
                      split
                      · exact HIK.out
                      · exact decide_eq_false hlt2))
                    clear HBF hTake hStay HIK hlt2
                    go_wp2_with fail
                    go_quiet (fail)
                    have HQ9 : Bx (QS W SS N o (.slice (some ⟨g7, 0, none⟩) N c7) (.slice (some ⟨g8, 0, none⟩) N c8) (.slice (some ⟨g9, 0, none⟩) N c9) (World.drewN wr nq) ∧ MadeR 3 W (World.drewN wr nq) (.slice Ao k co) (nats o)) := ⟨⟨HQ.out.1.fresh ((Still.drewN _ nq).below _), HQ.out.2.fresh ((Still.drewN _ nq).below _)⟩⟩
                    clear c8i c7i d9 HQ c8b c7b
                    go_wp2
                    go_roundw
                    case rel => first | exact ⟨i + 1, _, by omega, rfl, by go_num, HB2, HQ9⟩ | ((repeat apply Exists.intro); refine ⟨⟨i + 1, _, by omega, rfl, ?_, HB2, HQ9⟩, rfl⟩; go_num)
                    case measure => (simp [intOf]) <;> omega
                · have HB2 := Bx.mk (hStay.out (by rw [HBF.out]; rfl))
                  clear HBF hTake hStay HIK
                  go_wp2_with fail
                  go_quiet (fail)
                  have HQ9 : Bx (QS W SS N o (.slice (some ⟨g7, 0, none⟩) N c7) (.slice (some ⟨g8, 0, none⟩) N c8) (.slice (some ⟨g9, 0, none⟩) N c9) (World.drewN wr nq) ∧ MadeR 3 W (World.drewN wr nq) (.slice Ao k co) (nats o)) := ⟨⟨HQ.out.1.fresh ((Still.drewN _ nq).below _), HQ.out.2.fresh ((Still.drewN _ nq).below _)⟩⟩
                  clear c8i c7i d9 HQ c8b c7b
                  go_wp2
                  go_roundw
                  case rel => first | exact ⟨i + 1, _, by omega, rfl, by go_num, HB2, HQ9⟩ | ((repeat apply Exists.intro); refine ⟨⟨i + 1, _, by omega, rfl, ?_, HB2, HQ9⟩, rfl⟩; go_num)
                  case measure => (simp [intOf]) <;> omega
                · have HB2 := Bx.mk (hTake.out (by rw [HBF.out]; rfl))
                  clear HBF hTake hStay HIK
                  go_wp2_with fail
                  go_quiet (fail)
                  have HQ9 : Bx (QS W SS N o (.slice (some ⟨g7, 0, none⟩) N c7) (.slice (some ⟨g8, 0, none⟩) N c8) (.slice (some ⟨g9, 0, none⟩) N c9) (World.drewN wr nq) ∧ MadeR 3 W (World.drewN wr nq) (.slice Ao k co) (nats o)) := ⟨⟨HQ.out.1.fresh ((Still.drewN _ nq).below _), HQ.out.2.fresh ((Still.drewN _ nq).below _)⟩⟩
                  clear c8i c7i d9 HQ c8b c7b
                  go_wp2
                  go_roundw
                  case rel => first | exact ⟨i + 1, _, by omega, rfl, by go_num, HB2, HQ9⟩ | ((repeat apply Exists.intro); refine ⟨⟨i + 1, _, by omega, rfl, ?_, HB2, HQ9⟩, rfl⟩; go_num)
                  case measure => (simp [intOf]) <;> omega
                · by_cases hlt2 : tk < ti
                  · have hne2 : ti ≠ tk := by omega
                    have hgtd : decide (ti > tk) = true := decide_eq_true (by omega)
                    have HB2 := Bx.mk (hTake.out (by rw [HBF.out, if_pos rfl, if_neg hne2]; exact decide_eq_true hlt2))
                    clear HBF hTake hStay HIK hne2
                    go_wp2_with fail
                    go_quiet (fail)
                    have HQ9 : Bx (QS W SS N o (.slice (some ⟨g7, 0, none⟩) N c7) (.slice (some ⟨g8, 0, none⟩) N c8) (.slice (some ⟨g9, 0, none⟩) N c9) (World.drewN wr nq) ∧ MadeR 3 W (World.drewN wr nq) (.slice Ao k co) (nats o)) := ⟨⟨HQ.out.1.fresh ((Still.drewN _ nq).below _), HQ.out.2.fresh ((Still.drewN _ nq).below _)⟩⟩
                    clear c8i c7i d9 HQ c8b c7b
                    go_wp2
                    go_roundw
                    case rel => first | exact ⟨i + 1, _, by omega, rfl, by go_num, HB2, HQ9⟩ | ((repeat apply Exists.intro); refine ⟨⟨i + 1, _, by omega, rfl, ?_, HB2, HQ9⟩, rfl⟩; go_num)
                    case measure => (simp [intOf]) <;> omega
                  · have hge2 : ti ≤ tk := by omega
                    have hgtd : decide (ti > tk) = false := decide_eq_false (by omega)
                    have HB2 := Bx.mk (hStay.out (by
                      rw [HBF.out, if_pos rfl]
                      split
                      · exact HIK.out
                      · exact decide_eq_false hlt2))
                    clear HBF hTake hStay HIK hlt2
                    go_wp2_with fail
                    go_quiet (fail)
                    have HQ9 : Bx (QS W SS N o (.slice (some ⟨g7, 0, none⟩) N c7) (.slice (some ⟨g8, 0, none⟩) N c8) (.slice (some ⟨g9, 0, none⟩) N c9) (World.drewN wr nq) ∧ MadeR 3 W (World.drewN wr nq) (.slice Ao k co) (nats o)) := ⟨⟨HQ.out.1.fresh ((Still.drewN _ nq).below _), HQ.out.2.fresh ((Still.drewN _ nq).below _)⟩⟩
                    clear c8i c7i d9 HQ c8b c7b
                    go_wp2
                    go_roundw
                    case rel => first | exact ⟨i + 1, _, by omega, rfl, by go_num, HB2, HQ9⟩ | ((repeat apply Exists.intro); refine ⟨⟨i + 1, _, by omega, rfl, ?_, HB2, HQ9⟩, rfl⟩; go_num)
                    case measure => (simp [intOf]) <;> omega
          · obtain rfl : i = N := by omega
            obtain ⟨kk, hb, hkN, hkn, hsel⟩ := HB.out.found HSEL.out (by rw [HK.out]; exact hlt)
            subst hb
            obtain ⟨g9, old, A', c', w3, e9, d9, f9, r9, q9, m9⟩ := HQ.out.1.take HQ.out.2 hkN HK.out (by omega)
            obtain ⟨rfl⟩ : Bx (A9 = some ⟨g9, 0, none⟩) := ⟨e9⟩
            have R9 := Bx.mk r9
            have HN9 := Bx.mk (And.intro q9 (And.intro m9 hsel))
            have HK2 : Bx ((o ++ [kk]).length = k + 1) := ⟨by rw [List.length_append, HK.out]; rfl⟩
            have k0 : (0 : Int) ≤ (kk : Int) := by omega
            have k1 : (kk : Int) < (i : Int) := by omega
            clear hkn hsel r9 q9 m9 HB HSEL HQ
            go_wp2_with (first | (at_builtin; refine wpList_append_g rfl _ _ rfl rfl rfl rfl R9.out ?_))
            go_roundw
            case rel => first | exact ⟨o ++ [kk], k + 1, A', c', by omega, rfl, HK2, HN9⟩ | ((repeat apply Exists.intro); exact ⟨⟨o ++ [kk], k + 1, A', c', by omega, rfl, HK2, HN9⟩, rfl⟩)
            case measure => (simp [lenV]) <;> omega
      · obtain rfl : k = N := by omega
        have HO := Bx.mk (HZ.out.2.2.ord HK.out)
        have HM := Bx.mk HZ.out.2.1
        clear HZ HK
        go_wp2
        go_ret
        exact ⟨o, Ao, co, rfl, HO.out, HM.out⟩
end Go.Proofs.Ytimlcjdpnhhjdaa.rk
