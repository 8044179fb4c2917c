/-
  Given for the seat's laws: rows of runners of the call's own; what becomes of scores when one is left out. No condition but those of the theorems.
-/
import Derived.Test.YtimlcjdpnhhjdaaRAwake
import Derived.Test.YtimlcjdpnhhjdaaRWo
namespace Go.Proofs.Ytimlcjdpnhhjdaa.rk
open Go.RowKit mem sp
set_option linter.unusedVariables false

def rcells : List Rn → List Value
  | [] => []
  | x :: l => .string (S x.1) :: .int .i64 x.2 :: rcells l
theorem rcells_len : ∀ l, (rcells l).length = l.length * 2
  | [] => rfl
  | x :: l => by simp only [rcells, List.length_cons, rcells_len l]; omega
theorem rcells_app : ∀ l l', rcells (l ++ l') = rcells l ++ rcells l'
  | [], l' => rfl
  | x :: l, l' => by simp only [rcells, List.cons_append, rcells_app l l']
theorem rcells_get : ∀ {l : List Rn} {j : Nat} {x : Rn}, l[j]? = some x → (rcells l)[j * 2]? = some (.string (S x.1)) ∧ (rcells l)[j * 2 + 1]? = some (.int .i64 x.2)
  | y :: l, 0, x, h => by
    have : y = x := by simpa using h
    subst this
    exact ⟨rfl, rfl⟩
  | y :: l, j + 1, x, h => by
    have h' : l[j]? = some x := by simpa using h
    have := rcells_get h'
    rw [show (j + 1) * 2 = j * 2 + 2 by omega]
    exact this
theorem rcells_of : ∀ {l : List Rn} {i : Nat} {u : Value}, (rcells l)[i]? = some u → ∃ j x, l[j]? = some x ∧ (i = j * 2 ∧ u = .string (S x.1) ∨ i = j * 2 + 1 ∧ u = .int .i64 x.2)
  | x :: l, 0, u, h => ⟨0, x, rfl, .inl ⟨rfl, by simpa [rcells] using h.symm⟩⟩
  | x :: l, 1, u, h => ⟨0, x, rfl, .inr ⟨rfl, by simpa [rcells] using h.symm⟩⟩
  | x :: l, i + 2, u, h => by
    have h' : (rcells l)[i]? = some u := by simpa [rcells] using h
    obtain ⟨j, y, hy, hh⟩ := rcells_of h'
    refine ⟨j + 1, y, by simpa using hy, ?_⟩
    rcases hh with ⟨e, hu⟩ | ⟨e, hu⟩
    · exact .inl ⟨by omega, hu⟩
    · exact .inr ⟨by omega, hu⟩
theorem rcells_one (l : List Rn) : ∀ u ∈ rcells l, u.oneCell' = true := by
  intro u hu
  obtain ⟨i, hi⟩ := List.mem_iff_getElem?.1 hu
  obtain ⟨j, x, _, ⟨_, rfl⟩ | ⟨_, rfl⟩⟩ := rcells_of hi <;> rfl
structure MadeX (w wr : World) (v : Value) (l : List Rn) : Prop where
  own : wr.ownsRow w.heap.size 40 2 v l.length (rcells l)
  below : Below w.heap.size w wr
section
variable {w wr w2 : World} {v : Value} {l l' : List Rn} {A : Option Addr} {n c : Nat}
theorem MadeX.fresh (h : MadeX w wr v l) (hb : Below wr.heap.size wr w2) : MadeX w w2 v l :=
  ⟨rown_same h.own (fun g hg => hb.block g (rown_lt h.own hg).2), h.below.trans (hb.mono h.below.size)⟩
theorem MadeX.runs (h : MadeX w wr (.slice A n c) l) (hn : l.length = n) : RunsAt wr (fun g => w.heap.size ≤ g ∧ g < wr.heap.size) A l := ⟨fun hp => by
  have h1 := h.own
  rw [hn] at h1
  rcases h1.2 with ⟨hv, hn0⟩ | ⟨g, cap, cur, hv, hb, hh, hnc, hm, hs, ht⟩
  · omega
  · simp only [Value.slice.injEq] at hv
    obtain ⟨rfl, _, rfl⟩ := hv
    have key : ∀ (i : Nat) (u : Value), (rcells l)[i]? = some u → wr.cell? ⟨g, 0 + i, none⟩ = some u := fun i u hu => by
      rw [← ht, List.getElem?_take] at hu
      split at hu
      · simp [World.cell?, hh, Nat.zero_add]
        simpa using hu
      · cases hu
    refine ⟨g, 0, rfl, ⟨hb, (Array.getElem?_eq_some_iff.1 hh).1⟩, fun j x hx => ?_⟩
    have := rcells_get hx
    exact ⟨key _ _ this.1, key _ _ this.2⟩⟩
theorem MadeX.start (w : World) : MadeX w (w.alloc (.cells #[] 40)) (.slice (some ⟨w.heap.size, 0, none⟩) (0 : Nat) 0) [] :=
  ⟨⟨rfl, .inr ⟨w.heap.size, 0, #[], rfl, Nat.le_refl _, heap_alloc_new w _, Nat.le_refl _, by unfold maxLen; omega, rfl, rfl⟩⟩, (Below.refl _ _).alloc (Nat.le_refl _) _⟩
theorem MadeX.nil (w : World) : MadeX w w (.slice none (0 : Nat) 0) [] := ⟨World.ownsRow_nil w _ _ _, Below.refl _ _⟩
theorem add_at (g off j : Nat) : (⟨g, off, none⟩ : Addr).add j = ⟨g, off + j, none⟩ := by
  unfold Addr.add
  split
  · next h => subst h; rfl
  · rfl
theorem MadeX.app {ok : Nat → Prop} {g off m cm : Nat} (h : MadeX w wr v l) (hs : RunsAt wr ok (some ⟨g, off, none⟩) l') (hm : l'.length = m) (hl : l.length = n) (hb : n + m ≤ 1000) :
    ∃ A c w2, (Builtin.append_ #[34, 34] 34 #[v, .slice (some ⟨g, off, none⟩) m cm]).run Try.prog wr = .ok (.slice A (n + m : Nat) c) w2 ∧ MadeX w w2 (.slice A (n + m : Nat) c) (l ++ l') ∧ wr.grownBy w2 v.ownBlock := by
  obtain ⟨i0, hinf, hz0, hz1, hz2⟩ := info_parts (show (Try.prog.info? 40).map (fun i => (i.zero, i.size, i.bytes)) = some (some (.agg #[.string ⟨#[]⟩, .int .i64 0]), 2, 24) by kernel_rfl)
  have h1 := h.own
  rw [hl] at h1
  obtain ⟨v', w', hr, ho, hg, _⟩ := run_append_own (P := Try.prog) wr w.heap.size 34 34 40 i0 (.agg #[.string ⟨#[]⟩, .int .i64 0]) 2 24 Try.underlying34 hinf hz0 hz1 hz2 rfl (by decide) v n (rcells l) h1 ⟨g, off, none⟩ m cm (rcells l') (by rw [rcells_len, hm]) (fun j u hu => by
    obtain ⟨k, x, hx, hh⟩ := rcells_of hu
    obtain ⟨g', off', e, _, c1, c2⟩ := hs.cell hx
    cases e
    rw [add_at]
    rcases hh with ⟨rfl, rfl⟩ | ⟨rfl, rfl⟩
    · exact c1
    · rw [← Nat.add_assoc]; exact c2) (rcells_one _) (by unfold maxLen; omega) (by omega) h.below.size
  obtain ⟨A, c, rfl⟩ := rown_form ho
  have hl2 : (l ++ l').length = n + m := by rw [List.length_append, hl, hm]
  exact ⟨A, c, w', hr, ⟨by rw [hl2, rcells_app]; exact ho, h.below.grown hg h.below.size (fun k hk => (rown_lt h1 hk).1)⟩, hg⟩
end
theorem SR_get {key : Str} {l : List Rn} {j : Nat} {x : Rn} (h : l[j]? = some x) : SR key l j = scoK key x.1 x.2 := by
  unfold SR Sfn nms wts
  rw [List.getD_eq_getElem?_getD, List.getD_eq_getElem?_getD, List.getElem?_map, List.getElem?_map, h]
  rfl
theorem SR_erase {key : Str} {l : List Rn} {which j : Nat} (hj : j < l.length - 1) (hw : which < l.length) : SR key (l.take which ++ l.drop (which + 1)) j = SR key l (skip which j) := by
  have hs : skip which j < l.length := by unfold skip; split <;> omega
  obtain ⟨x, hx⟩ : ∃ x, l[skip which j]? = some x := ⟨_, List.getElem?_eq_getElem hs⟩
  rw [SR_get hx]
  apply SR_get
  rw [List.getElem?_append, List.length_take]
  have hmin : min which l.length = which := by omega
  rw [hmin]
  unfold skip at hx
  split
  · next h =>
    rw [if_pos h] at hx
    rw [List.getElem?_take_of_lt h]
    exact hx
  · next h =>
    rw [if_neg h] at hx
    rw [List.getElem?_drop]
    rw [show which + 1 + (j - which) = j + 1 by omega]
    exact hx
end Go.Proofs.Ytimlcjdpnhhjdaa.rk
