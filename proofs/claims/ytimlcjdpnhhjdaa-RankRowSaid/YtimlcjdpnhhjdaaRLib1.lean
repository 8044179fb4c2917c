/-
  Given for the seat's laws: rows of the call's own of whatever one-cell kind; the contracts of Same, of the law's own row, great, order. No condition but those of the theorems.
-/
import Derived.Test.YtimlcjdpnhhjdaaROrder
import Derived.Test.YtimlcjdpnhhjdaaRGreat
namespace Go.Proofs.Ytimlcjdpnhhjdaa.rk
open Go.RowKit mem sp
set_option linter.unusedVariables false

/-! ### rows of the call's own -/
theorem rown_same {w w' : World} {B : Nat} {v : Value} {e : TypeId} {sz k : Nat} {xs : List Value} (h : w.ownsRow B e sz v k xs) (hk : ∀ g, v.ownBlock = some g → w'.heap[g]? = w.heap[g]?) : w'.ownsRow B e sz v k xs := by
  refine ⟨h.1, ?_⟩
  rcases h.2 with h0 | ⟨g, cap, cur, hv, hb, hh, rest⟩
  · exact .inl h0
  · exact .inr ⟨g, cap, cur, hv, hb, by rw [hk g (by rw [hv]; rfl)]; exact hh, rest⟩
theorem rown_lt {w : World} {B : Nat} {v : Value} {e : TypeId} {sz k : Nat} {xs : List Value} (h : w.ownsRow B e sz v k xs) {g : Nat} (hg : v.ownBlock = some g) : B ≤ g ∧ g < w.heap.size := by
  rcases h.2 with ⟨rfl, _⟩ | ⟨g', cap, cur, rfl, hb, hh, _⟩
  · simp [Value.ownBlock] at hg
  · have : g' = g := by simpa [Value.ownBlock] using hg
    subst this
    exact ⟨hb, (Array.getElem?_eq_some_iff.1 hh).1⟩
theorem rown_apart {w : World} {B B' : Nat} {v v' : Value} {e e' : TypeId} {sz sz' k k' : Nat} {xs xs' : List Value} (h : w.ownsRow B e sz v k xs) (h' : w.ownsRow B' e' sz' v' k' xs') (hne : e ≠ e') {g : Nat} (hg : v.ownBlock = some g) : v'.ownBlock ≠ some g := by
  rcases h.2 with ⟨rfl, _⟩ | ⟨g1, cap, cur, rfl, _, hh, _⟩
  · simp [Value.ownBlock] at hg
  · have e1 : g1 = g := by simpa [Value.ownBlock] using hg
    subst e1
    rcases h'.2 with ⟨rfl, _⟩ | ⟨g2, cap2, cur2, rfl, _, hh2, _⟩
    · simp [Value.ownBlock]
    · intro e2
      have e3 : g2 = g1 := by simpa [Value.ownBlock] using e2
      subst e3
      rw [hh] at hh2
      simp at hh2
      exact hne hh2.2
theorem rown_form {w : World} {B : Nat} {v : Value} {e : TypeId} {sz k : Nat} {xs : List Value} (h : w.ownsRow B e sz v k xs) : ∃ A c, v = .slice A k c := by
  rcases h.2 with ⟨rfl, rfl⟩ | ⟨g', cap, cur, hv, _⟩
  · exact ⟨none, 0, rfl⟩
  · exact ⟨_, _, hv⟩
structure MadeR (t : TypeId) (w wr : World) (v : Value) (vs : List Value) : Prop where
  own : wr.ownsRow w.heap.size t 1 v vs.length vs
  below : Below w.heap.size w wr
theorem MadeR.start (t : TypeId) (w : World) : MadeR t w w (.slice none 0 0) [] := ⟨World.ownsRow_nil w _ _ _, Below.refl _ _⟩
theorem MadeR.fresh {t : TypeId} {w wr w2 : World} {v : Value} {vs : List Value} (h : MadeR t w wr v vs) (hb : Below wr.heap.size wr w2) : MadeR t w w2 v vs :=
  ⟨rown_same h.own (fun g hg => hb.block g (rown_lt h.own hg).2), h.below.trans (hb.mono h.below.size)⟩
theorem MadeR.drew {t : TypeId} {w wr : World} {v : Value} {vs : List Value} (h : MadeR t w wr v vs) : MadeR t w wr.drew v vs := h.fresh ((Below.refl _ _).drew)
theorem MadeR.row {t : TypeId} {w wr : World} {A : Option Addr} {n c : Nat} {vs : List Value} (h : MadeR t w wr (.slice A n c) vs) (hn : vs.length = n) : RowAt wr (fun g => g < wr.heap.size) A vs := by
  have h1 := h.own
  rw [hn] at h1
  exact (RowAt.of_own h1).weak (fun g hg => hg.2.1)
/-- the kind of a row -/
structure Kind (t sl : TypeId) (z : Value) (by_ : Nat) : Prop where
  sl : Try.prog.underlying sl = some (.slice t)
  info : (Try.prog.info? t).map (fun i => (i.zero, i.size, i.bytes)) = some (some z, 1, by_)
  z : z.cells.size = 1
theorem kInt : Kind 3 30 (.int .i64 0) 8 := ⟨Try.underlying30, by kernel_rfl, rfl⟩
theorem kStr : Kind 9 24 (.string ⟨#[]⟩) 16 := ⟨Try.underlying24, by kernel_rfl, rfl⟩
theorem kBool : Kind 4 38 (.bool false) 1 := ⟨Try.underlying38, by kernel_rfl, rfl⟩
theorem kU64 : Kind 25 58 (.int .u64 0) 8 := ⟨Try.underlying58, by kernel_rfl, rfl⟩
theorem MadeR.push {t sl : TypeId} {z : Value} {by_ : Nat} (K : Kind t sl z by_) {w w1 : World} {v : Value} {vs : List Value} (h : MadeR t w w1 v vs) (x : Value) (hx : x.oneCell' = true) {n : Nat} (hn : vs.length = n) (hb : (n + 1) * by_ ≤ 140737488355328) (hm : n + 1 ≤ maxLen) :
    ∃ A c w2, (Builtin.append_ #[sl, sl] sl #[v, .slice (some ⟨w1.heap.size, 0, none⟩) 1 1]).run Try.prog (w1.alloc (.cells #[x] t)) = .ok (.slice A (n + 1 : Nat) c) w2 ∧
      MadeR t w w2 (.slice A (n + 1 : Nat) c) (vs ++ [x]) ∧ ∀ g, g < w1.heap.size → v.ownBlock ≠ some g → w2.heap[g]? = w1.heap[g]? := by
  obtain ⟨i0, hinf, hz0, hz1, hz2⟩ := info_parts K.info
  have h3 := rown_same (w' := w1.alloc (.cells #[x] t)) h.own (fun g hg => Below.heap_alloc _ _ _ (rown_lt h.own hg).2)
  rw [hn] at h3
  obtain ⟨v', w', hr, ho, hg, _⟩ := run_append_own (P := Try.prog) (w1.alloc (.cells #[x] t)) w.heap.size sl sl t i0 z 1 by_ K.sl hinf hz0 hz1 hz2 K.z (by decide) v n vs h3 ⟨w1.heap.size, 0, none⟩ 1 1 [x] rfl (fun j u hu => by
    cases j with
    | zero =>
      have e : (⟨w1.heap.size, 0, none⟩ : Addr).add 0 = ⟨w1.heap.size, 0, none⟩ := rfl
      rw [e, lit_cell]
      simpa using hu
    | succ j => simp at hu) (by simpa using hx) hm hb (by simp; have := h.below.size; omega)
  obtain ⟨A, c, rfl⟩ := rown_form ho
  have hl : (vs ++ [x]).length = n + 1 := by simp [hn]
  have hal : Below w1.heap.size w1 (w1.alloc (.cells #[x] t)) := (Below.refl _ _).alloc (Nat.le_refl _) _
  refine ⟨A, c, w', hr, ⟨by rw [hl]; exact ho, (h.below.alloc h.below.size _).grown hg (h.below.alloc h.below.size _).size (fun g hg' => (rown_lt h3 hg').1)⟩, fun g hg1 hg2 => ?_⟩
  rw [hg.block g (by simp; omega) (fun e => hg2 e.symm), hal.block g hg1]
theorem wpList_append_g {P : Program} {w w' : World} {ops : Array Oper} {rest : List Oper} {o : Oper} {a : Act} {Q : Exit → Act → World → Prop} {v u v' : Value} {sl : TypeId} (hg : o.guard = none) (s x : Operand)
    (hop : o.op = Op.call { callee := Callee.builtin Builtin.append, args := #[s, x], argTypes := #[sl, sl] }) (hty : o.type = sl) (hs : a.eval s = v) (hx : a.eval x = u)
    (hrun : (Builtin.append_ #[sl, sl] sl #[v, u]).run P w = .ok v' w') (h : wpList P ops Q rest (a.put o.dst v') w') : wpList P ops Q (o :: rest) a w := by
  refine wpList_plain hg fun K hK' => ?_
  unfold Oper.wp
  simp [execOp, hop, hty, resolve, invoke, builtin, hs, hx, hrun, Result.andThen]
  exact hK' _ _ h

/-! ### Same -/
set_option maxHeartbeats 4000000 in
set_option maxRecDepth 100000 in
theorem same_any {w : World} {oka okb : Nat → Prop} {A B : Option Addr} {n c m d : Nat} {a b : List Int} (hn : a.length = n) (ha : RowAt w oka A (intv a)) (hka : ∀ g, oka g → g < w.heap.size) (hm : b.length = m) (hb : RowAt w okb B (intv b)) (hkb : ∀ g, okb g → g < w.heap.size) (hmx : n ≤ 100000) :
    Calls Try.prog 15 #[.slice A n c, .slice B m d] w fun e w' => e = .returned (.bool (decide (a = b))) ∧ Below w.heap.size w w' := by
  obtain ⟨r, hr⟩ : ∃ r, decide (a = b) = r := ⟨_, rfl⟩
  rw [hr]
  have HR := Bx.mk hr
  by_cases hnm : n = m
  · subst hnm
    have HA := Bx.mk ha
    have HBB := Bx.mk hb
    have HN := Bx.mk hn
    have HM := Bx.mk hm
    have H0 := Bx.mk (Below.refl w.heap.size w)
    have HKA := Bx.mk hka
    have HKB := Bx.mk hkb
    clear ha hb hn hm hr hka hkb
    go_enter Try.func15, Try.ntmps15
    go_wp2
    go_loopw [5] (fun s5 wr => ∃ i : Nat, i ≤ n ∧ s5 = .int .i64 (i : Int) ∧ Bx (a.take i = b.take i) ∧ Bx (Below w.heap.size w wr)) (fun s5 _ => n - (intOf s5).toNat)
    case atStart => exact ⟨0, by omega, rfl, ⟨rfl⟩, H0⟩
    case round =>
      clear H0
      obtain ⟨i, hi, rfl, HT, HB⟩ := hrel
      by_cases hlt : i < n
      · obtain ⟨x, hx⟩ : ∃ x, a[i]? = some x := ⟨_, List.getElem?_eq_getElem (by rw [HN.out]; exact hlt)⟩
        obtain ⟨y, hy⟩ : ∃ y, b[i]? = some y := ⟨_, List.getElem?_eq_getElem (by rw [HM.out]; exact hlt)⟩
        obtain ⟨g1, o1, rfl, ho1, c1⟩ := (HA.out.below HB.out HKA.out).cell (intv_get hx)
        obtain ⟨g2, o2, rfl, ho2, c2⟩ := (HBB.out.below HB.out HKB.out).cell (intv_get hy)
        have HX := Bx.mk hx
        have HY := Bx.mk hy
        have HB1 := Bx.mk HB.out.drew
        have i0 : (0 : Int) ≤ (i : Int) := by omega
        have i1 : (i : Int) < (n : Int) := by omega
        clear hx hy HB
        by_cases hxy : x = y
        · have e1 : (x != y) = false := by simp [hxy]
          have HT2 : Bx (a.take (i + 1) = b.take (i + 1)) := ⟨by rw [List.take_add_one, List.take_add_one, HT.out, HX.out, HY.out, hxy]⟩
          clear HT hxy
          go_wp2
          go_region
          all_goals
            go_wp2
            go_roundw
            case rel => exact ⟨i + 1, by omega, by go_num, HT2, HB1⟩
            case measure => simp [intOf]; omega
        · have e1 : (x != y) = true := by simpa using hxy
          have hrf : r = false := by
            rw [← HR.out]
            refine decide_eq_false (fun e => hxy ?_)
            have := HX.out
            rw [e, HY.out] at this
            exact (Option.some.inj this).symm
          have HRF := Bx.mk hrf
          clear hxy hrf
          go_wp2
          go_region
          all_goals
            go_wp2
            go_ret
            exact ⟨by rw [HRF.out]; rfl, HB1.out⟩
      · obtain rfl : i = n := by omega
        have hab : a = b := by
          have h := HT.out
          rwa [List.take_of_length_le (by rw [HN.out]; exact Nat.le_refl _), List.take_of_length_le (by rw [HM.out]; exact Nat.le_refl _)] at h
        have HRT := Bx.mk (show r = true by rw [← HR.out]; exact decide_eq_true hab)
        clear hab
        go_wp2
        go_ret
        exact ⟨by rw [HRT.out]; rfl, HB.out⟩
  · have hne : ((n : Int) != (m : Int)) = true := by simpa using (by omega : ¬ (n : Int) = (m : Int))
    have hrf : r = false := by
      rw [← hr]
      refine decide_eq_false (fun e => hnm ?_)
      rw [← hn, ← hm, e]
    have HRF := Bx.mk hrf
    clear ha hb hn hm hr hka hkb hnm hrf
    go_enter Try.func15, Try.ntmps15
    go_wp2
    go_ret
    exact ⟨by rw [HRF.out]; rfl, Below.refl _ _⟩
end Go.Proofs.Ytimlcjdpnhhjdaa.rk
