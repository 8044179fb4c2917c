/-
  Given for the seat's laws: the rows of the document's Order. No condition but those of the theorems.
-/
import Derived.Test.YtimlcjdpnhhjdaaRLib1
import Derived.Test.YtimlcjdpnhhjdaaRRef2
namespace Go.Proofs.Ytimlcjdpnhhjdaa.rk
open Go.RowKit mem sp
set_option linter.unusedVariables false

/-- .. and where the row lies behind it -/
theorem MadeR.push2 {t sl : TypeId} {z : Value} {by_ : Nat} (K : Kind t sl z by_) {w w1 : World} {v : Value} {vs : List Value} (h : MadeR t w w1 v vs) (x : Value) (hx : x.oneCell' = true) {n : Nat} (hn : vs.length = n) (hb : (n + 1) * by_ ≤ 140737488355328) (hm : n + 1 ≤ maxLen) :
    ∃ A c w2, (Builtin.append_ #[sl, sl] sl #[v, .slice (some ⟨w1.heap.size, 0, none⟩) 1 1]).run Try.prog (w1.alloc (.cells #[x] t)) = .ok (.slice A (n + 1 : Nat) c) w2 ∧
      MadeR t w w2 (.slice A (n + 1 : Nat) c) (vs ++ [x]) ∧ (∀ g, g < w1.heap.size → v.ownBlock ≠ some g → w2.heap[g]? = w1.heap[g]?) ∧ (∀ g, (Value.slice A (n + 1 : Nat) c).ownBlock = some g → v.ownBlock = some g ∨ w1.heap.size ≤ g) := by
  obtain ⟨i0, hinf, hz0, hz1, hz2⟩ := info_parts K.info
  have h3 := rown_same (w' := w1.alloc (.cells #[x] t)) h.own (fun g hg => Below.heap_alloc _ _ _ (rown_lt h.own hg).2)
  rw [hn] at h3
  obtain ⟨v', w', hr, ho, hg, _, hat⟩ := run_append_own_at (P := Try.prog) (w1.alloc (.cells #[x] t)) w.heap.size sl sl t i0 z 1 by_ K.sl hinf hz0 hz1 hz2 K.z (by decide) v n vs h3 ⟨w1.heap.size, 0, none⟩ 1 1 [x] rfl (fun j u hu => by
    cases j with
    | zero =>
      have e : (⟨w1.heap.size, 0, none⟩ : Addr).add 0 = ⟨w1.heap.size, 0, none⟩ := rfl
      rw [e, lit_cell]
      simpa using hu
    | succ j => simp at hu) (by simpa using hx) hm hb (by simp; have := h.below.size; omega)
  obtain ⟨A, c, rfl⟩ := rown_form ho
  have hl : (vs ++ [x]).length = n + 1 := by simp [hn]
  have hal : Below w1.heap.size w1 (w1.alloc (.cells #[x] t)) := (Below.refl _ _).alloc (Nat.le_refl _) _
  refine ⟨A, c, w', hr, ⟨by rw [hl]; exact ho, (h.below.alloc h.below.size _).grown hg (h.below.alloc h.below.size _).size (fun g hg' => (rown_lt h3 hg').1)⟩, fun g hg1 hg2 => ?_, fun g hg' => ?_⟩
  · rw [hg.block g (by simp; omega) (fun e => hg2 e.symm), hal.block g hg1]
  · rcases hat with e | e
    · exact .inl (e.symm.trans hg')
    · rw [e] at hg'
      have := Option.some.inj hg'
      simp at this
      exact .inr (by omega)
/-- a value of a row of the call's own is set -/
theorem MadeR.setAt {t : TypeId} {w wr : World} {A : Option Addr} {n c q : Nat} {vs : List Value} (h : MadeR t w wr (.slice A n c) vs) (hn : vs.length = n) (hq : q < n) (u : Value) :
    ∃ g old, A = some ⟨g, 0, none⟩ ∧ wr.cell? ⟨g, q, none⟩ = some old ∧ wr.frozen? ⟨g, q, none⟩ = false ∧ w.heap.size ≤ g ∧ MadeR t w (wr.setCell ⟨g, q, none⟩ u) (.slice A n c) (vs.set q u) := by
  have h1 := h.own
  rw [hn] at h1
  rcases h1.2 with ⟨hv, hn0⟩ | ⟨g, cap, cur, hv, hb, hh, hnc, hm, hs, ht⟩
  · omega
  · simp only [Value.slice.injEq] at hv
    obtain ⟨rfl, _, rfl⟩ := hv
    have hqc : q < cur.size := by omega
    refine ⟨g, cur[q], rfl, ?_, ?_, hb, ?_, ?_⟩
    · simp [World.cell?, hh, hqc]
    · simp [World.frozen?, hh]
    · rw [List.length_set, hn]
      refine ⟨by rw [List.length_set, hn, Nat.mul_one], .inr ⟨g, c, cur.setIfInBounds q u, rfl, hb, ?_, hnc, hm, by simpa using hs, ?_⟩⟩
      · simp [World.setCell, Array.getElem?_modify, hh]
      · rw [Array.toList_setIfInBounds, List.take_set, ht]
    · exact h.below.setCell (p := ⟨g, q, none⟩) hb _
theorem MadeR.cellAt {t : TypeId} {w wr : World} {A : Option Addr} {n c q : Nat} {vs : List Value} {u : Value} (h : MadeR t w wr (.slice A n c) vs) (hn : vs.length = n) (hq : vs[q]? = some u) : ∃ g, A = some ⟨g, 0, none⟩ ∧ wr.cell? ⟨g, q, none⟩ = some u := by
  have h1 := h.own
  rw [hn] at h1
  have hql := (List.getElem?_eq_some_iff.1 hq).1
  rcases h1.2 with ⟨hv, hn0⟩ | ⟨g, cap, cur, hv, hb, hh, hnc, hm, hs, ht⟩
  · omega
  · simp only [Value.slice.injEq] at hv
    obtain ⟨rfl, _, rfl⟩ := hv
    refine ⟨g, rfl, ?_⟩
    rw [← ht, List.getElem?_take] at hq
    split at hq
    · simp [World.cell?, hh]
      simpa using hq
    · cases hq
/-- kept behind a store elsewhere -/
theorem MadeR.far {t : TypeId} {w wr : World} {v : Value} {vs : List Value} (h : MadeR t w wr v vs) {g i : Nat} (hg : w.heap.size ≤ g) (hne : v.ownBlock ≠ some g) (u : Value) : MadeR t w (wr.setCell ⟨g, i, none⟩ u) v vs :=
  ⟨rown_same h.own (fun k hk => Below.heap_setCell _ _ _ _ (fun e => hne (by rw [hk]; exact congrArg some e))), h.below.setCell (p := ⟨g, i, none⟩) hg _⟩
theorem MadeR.apart {t t' : TypeId} {w w' wr : World} {v v' : Value} {vs vs' : List Value} (h : MadeR t w wr v vs) (h' : MadeR t' w' wr v' vs') (hne : t ≠ t') {g : Nat} (hg : v.ownBlock = some g) : v'.ownBlock ≠ some g := rown_apart h.own h'.own hne hg

def scl (S : Nat → Sc) (i : Nat) : List Value := (List.range i).map fun j => .int .u64 (S j).top
def hsl (S : Nat → Sc) (i : Nat) : List Value := (List.range i).map fun j => .bool (S j).has
def dnl (o : List Nat) (i : Nat) : List Value := (List.range i).map fun j => .bool (decide (j ∈ o))
theorem scl_len (S : Nat → Sc) (i : Nat) : (scl S i).length = i := by simp [scl]
theorem hsl_len (S : Nat → Sc) (i : Nat) : (hsl S i).length = i := by simp [hsl]
theorem dnl_len (o : List Nat) (i : Nat) : (dnl o i).length = i := by simp [dnl]
theorem scl_add (S : Nat → Sc) (i : Nat) : scl S (i + 1) = scl S i ++ [.int .u64 (S i).top] := by simp [scl, List.range_succ]
theorem hsl_add (S : Nat → Sc) (i : Nat) : hsl S (i + 1) = hsl S i ++ [.bool (S i).has] := by simp [hsl, List.range_succ]
theorem dnl_add (i : Nat) : dnl [] (i + 1) = dnl [] i ++ [.bool false] := by simp [dnl, List.range_succ]
theorem scl_get {S : Nat → Sc} {i j : Nat} (h : j < i) : (scl S i)[j]? = some (.int .u64 (S j).top) := by simp [scl, h]
theorem hsl_get {S : Nat → Sc} {i j : Nat} (h : j < i) : (hsl S i)[j]? = some (.bool (S j).has) := by simp [hsl, h]
theorem dnl_get {o : List Nat} {i j : Nat} (h : j < i) : (dnl o i)[j]? = some (.bool (decide (j ∈ o))) := by simp [dnl, h]
theorem dnl_set {o : List Nat} {n b : Nat} (hb : b < n) : (dnl o n).set b (.bool true) = dnl (o ++ [b]) n := by
  apply List.ext_getElem?
  intro j
  by_cases hj : j < n
  · rw [dnl_get hj]
    by_cases e : j = b
    · subst e
      rw [List.getElem?_set_self (by rw [dnl_len]; exact hb)]
      simp
    · rw [List.getElem?_set_ne (fun q => e q.symm), dnl_get hj]
      simp [e]
  · rw [List.getElem?_eq_none (by rw [List.length_set, dnl_len]; omega), List.getElem?_eq_none (by rw [dnl_len]; omega)]
/-- the rows while the scores are reckoned, and while the best are taken -/
structure QS (w : World) (S : Nat → Sc) (i : Nat) (o : List Nat) (v7 v8 v9 : Value) (wr : World) : Prop where
  sc : MadeR 25 w wr v7 (scl S i)
  hs : MadeR 4 w wr v8 (hsl S i)
  dn : MadeR 4 w wr v9 (dnl o i)
  ap : ∀ g, v8.ownBlock = some g → v9.ownBlock ≠ some g
theorem QS.start (w : World) (S : Nat → Sc) : QS w S 0 [] (.slice none (0 : Nat) 0) (.slice none (0 : Nat) 0) (.slice none (0 : Nat) 0) w :=
  ⟨MadeR.start _ _, MadeR.start _ _, MadeR.start _ _, fun g e => by cases e⟩
theorem QS.fresh {w wr w2 : World} {S : Nat → Sc} {i : Nat} {o : List Nat} {v7 v8 v9 : Value} (h : QS w S i o v7 v8 v9 wr) (hb : Below wr.heap.size wr w2) : QS w S i o v7 v8 v9 w2 := ⟨h.sc.fresh hb, h.hs.fresh hb, h.dn.fresh hb, h.ap⟩
/-- one score more -/
theorem QS.add {w wr : World} {S : Nat → Sc} {i : Nat} {v7 v8 v9 : Value} (h : QS w S i [] v7 v8 v9 wr) (hi : i ≤ 1000) :
    ∃ A c B d C e wa wb wc, (Builtin.append_ #[58, 58] 58 #[v7, .slice (some ⟨wr.heap.size, 0, none⟩) 1 1]).run Try.prog (wr.alloc (.cells #[.int .u64 (S i).top] 25)) = .ok (.slice A (i + 1 : Nat) c) wa ∧
      (Builtin.append_ #[38, 38] 38 #[v8, .slice (some ⟨wa.heap.size, 0, none⟩) 1 1]).run Try.prog (wa.alloc (.cells #[.bool (S i).has] 4)) = .ok (.slice B (i + 1 : Nat) d) wb ∧
      (Builtin.append_ #[38, 38] 38 #[v9, .slice (some ⟨wb.heap.size, 0, none⟩) 1 1]).run Try.prog (wb.alloc (.cells #[.bool false] 4)) = .ok (.slice C (i + 1 : Nat) e) wc ∧
      QS w S (i + 1) [] (.slice A (i + 1 : Nat) c) (.slice B (i + 1 : Nat) d) (.slice C (i + 1 : Nat) e) wc := by
  obtain ⟨A, c, wa, r1, m1, k1, p1⟩ := h.sc.push2 kU64 (.int .u64 (S i).top) rfl (scl_len S i) (by omega) (by unfold maxLen; omega)
  rw [← scl_add] at m1
  have hs1 : MadeR 4 w wa v8 (hsl S i) := ⟨rown_same h.hs.own (fun g hg => k1 g (rown_lt h.hs.own hg).2 (h.hs.apart h.sc (by decide) hg)), m1.below⟩
  have dn1 : MadeR 4 w wa v9 (dnl [] i) := ⟨rown_same h.dn.own (fun g hg => k1 g (rown_lt h.dn.own hg).2 (h.dn.apart h.sc (by decide) hg)), m1.below⟩
  obtain ⟨B, d, wb, r2, m2, k2, p2⟩ := hs1.push2 kBool (.bool (S i).has) rfl (hsl_len S i) (by omega) (by unfold maxLen; omega)
  rw [← hsl_add] at m2
  have sc2 : MadeR 25 w wb (.slice A (i + 1 : Nat) c) (scl S (i + 1)) := ⟨rown_same m1.own (fun g hg => k2 g (rown_lt m1.own hg).2 (m1.apart hs1 (by decide) hg)), m2.below⟩
  have dn2 : MadeR 4 w wb v9 (dnl [] i) := ⟨rown_same dn1.own (fun g hg => k2 g (rown_lt dn1.own hg).2 (fun e => h.ap g e hg)), m2.below⟩
  have ap2 : ∀ g, (Value.slice B (i + 1 : Nat) d).ownBlock = some g → v9.ownBlock ≠ some g := fun g hg e => by
    rcases p2 g hg with q | q
    · exact h.ap g q e
    · have := (rown_lt dn1.own e).2; omega
  obtain ⟨C, e, wc, r3, m3, k3, p3⟩ := dn2.push2 kBool (.bool false) rfl (dnl_len [] i) (by omega) (by unfold maxLen; omega)
  rw [← dnl_add] at m3
  have sc3 : MadeR 25 w wc (.slice A (i + 1 : Nat) c) (scl S (i + 1)) := ⟨rown_same sc2.own (fun g hg => k3 g (rown_lt sc2.own hg).2 (sc2.apart dn2 (by decide) hg)), m3.below⟩
  have hs3 : MadeR 4 w wc (.slice B (i + 1 : Nat) d) (hsl S (i + 1)) := ⟨rown_same m2.own (fun g hg => k3 g (rown_lt m2.own hg).2 (ap2 g hg)), m3.below⟩
  refine ⟨A, c, B, d, C, e, wa, wb, wc, r1, r2, r3, sc3, hs3, m3, fun g hg e' => ?_⟩
  rcases p3 g e' with q | q
  · exact ap2 g hg q
  · have := (rown_lt m2.own hg).2; omega
end Go.Proofs.Ytimlcjdpnhhjdaa.rk
