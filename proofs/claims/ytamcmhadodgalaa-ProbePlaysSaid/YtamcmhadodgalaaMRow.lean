/-
  Given for 'Rows.ProbePlaysSaid': the document's rows, as they lie in memory. No condition but those of the theorems.
-/
import Derived.Test.YtamcmhadodgalaaQIn
namespace Go.Proofs.Ytamcmhadodgalaa.model
open Go.RowKit mem find
set_option linter.unusedVariables false

/-- the document's rows, as the slice that holds them lies -/
abbrev RowsAt (w : World) (A : Option Addr) (c : Nat) (l : List (Int × Int)) : Prop := w.ownsRow 0 60 2 (.slice A l.length c) l.length (flat l)

theorem RowsAt.cell {w : World} {A : Option Addr} {c : Nat} {l : List (Int × Int)} (h : RowsAt w A c l) (hp : 0 < l.length) :
    ∃ g, A = some ⟨g, 0, none⟩ ∧ g < w.heap.size ∧ ∀ (i : Nat) (x : Int × Int), l[i]? = some x → w.cell? ⟨g, i * 2, none⟩ = some (.int .i64 x.1) ∧ w.cell? ⟨g, i * 2 + 1, none⟩ = some (.int .i64 x.2) := by
  rcases h.2 with ⟨he, h0⟩ | ⟨g, cap, cur, he, hb, hg, hn, hm, hs, ht⟩
  · omega
  · simp only [Value.slice.injEq] at he
    obtain ⟨rfl, _, rfl⟩ := he
    refine ⟨g, rfl, (Array.getElem?_eq_some_iff.1 hg).1, fun i x hx => ?_⟩
    obtain ⟨h1, h2⟩ := flat_get l i x hx
    have k1 := h.cells (g := g) rfl (i * 2) _ h1
    have k2 := h.cells (g := g) rfl (i * 2 + 1) _ h2
    rw [Addr.add_lit, Nat.zero_add] at k1 k2
    exact ⟨k1, k2⟩

theorem RowsAt.of_same {w w' : World} {A : Option Addr} {c : Nat} {l : List (Int × Int)} (h : RowsAt w A c l) (hs : ∀ g, (Value.slice A l.length c).ownBlock = some g → w'.heap[g]? = w.heap[g]?) : RowsAt w' A c l := by
  refine ⟨h.1, ?_⟩
  rcases h.2 with hn | ⟨g, cap, cur, he, hb, hg, rest⟩
  · exact .inl hn
  · refine .inr ⟨g, cap, cur, he, hb, ?_, rest⟩
    rw [hs g (by rw [he]; rfl)]
    exact hg

theorem infoRow : (Try.prog.info? 60).map (fun i => (i.zero, i.size, i.bytes)) = some (some (.agg #[.int .i64 0, .int .i64 0]), 2, 16) := by kernel_rfl
/-! ### append -/
theorem append_run {w : World} {A : Option Addr} {c : Nat} {l : List (Int × Int)} (h : RowsAt w A c l) (b : Nat) (x : Int × Int) (hb : Lies w b 60 #[.int .i64 x.1, .int .i64 x.2]) (hl : l.length ≤ 1000) :
    ∃ A' c' w', (Builtin.append_ #[51, 51] 51 #[.slice A l.length c, .slice (some ⟨b, 0, none⟩) 1 1]).run Try.prog w = .ok (.slice A' (l ++ [x]).length c') w' ∧ RowsAt w' A' c' (l ++ [x]) ∧ w.grownBy w' (Value.slice A 0 0).ownBlock ∧
      ∀ g, (Value.slice A' 0 0).ownBlock = some g → (Value.slice A 0 0).ownBlock = some g ∨ w.heap.size ≤ g := by
  obtain ⟨i0, hinf, hz0, hz1, hz2⟩ := info_parts infoRow
  have hob : ∀ (A : Option Addr) (n c : Nat), (Value.slice A n c).ownBlock = (Value.slice A 0 0).ownBlock := fun A n c => by cases A <;> rfl
  obtain ⟨g, cap, w', hr, ho, hg, hat, _⟩ := run_append_lies (P := Try.prog) w 51 51 0 60 i0 (.agg #[.int .i64 0, .int .i64 0]) 2 16 Try.underlying51 hinf hz0 hz1 hz2 rfl (by decide) _ _ _ h ⟨b, 0, none⟩ 1 1 [.int .i64 x.1, .int .i64 x.2] rfl
    (fun j u hu => by
      rw [Addr.add_lit, Nat.zero_add, hb.cell]
      match j, hu with
      | 0, hu => simpa using hu
      | 1, hu => simpa using hu) (by simp [Value.oneCell']) (by decide) (by unfold maxLen; omega) (by omega) (Nat.zero_le _) _ rfl
  have e : flat (l ++ [x]) = flat l ++ [.int .i64 x.1, .int .i64 x.2] := by rw [flat_append]; rfl
  have el : (l ++ [x]).length = l.length + 1 := by simp
  rw [hob] at hg hat
  refine ⟨some ⟨g, 0, none⟩, cap, w', by rw [el]; exact hr, by unfold RowsAt; rw [el, e]; exact ho, hg, fun g' e' => ?_⟩
  simp only [Value.ownBlock, Option.some.injEq] at e'
  subst e'
  rcases hat with h | h
  · exact .inl h
  · exact .inr (Nat.le_of_eq h.symm)

theorem own_apart {w : World} {A : Option Addr} {c : Nat} {l : List (Int × Int)} (h : RowsAt w A c l) {g g' : Nat} {t : TypeId} {cs : Array Value} (hg : rowOf A = some g) (hl : Lies w g' t cs) (hne : t ≠ 60) : g ≠ g' := by
  rcases h.2 with ⟨he, h0⟩ | ⟨g1, cap, cur, he, hb, hgg, _⟩
  · simp only [Value.slice.injEq] at he
    obtain ⟨rfl, _, rfl⟩ := he
    simp [rowOf, Value.ownBlock] at hg
  · simp only [Value.slice.injEq] at he
    obtain ⟨rfl, _, rfl⟩ := he
    simp [rowOf, Value.ownBlock] at hg
    subst hg
    rintro rfl
    unfold Lies at hl
    rw [hgg] at hl
    simp at hl
    exact hne hl.2.symm
theorem own_lt {w : World} {A : Option Addr} {c : Nat} {l : List (Int × Int)} (h : RowsAt w A c l) {g : Nat} (hg : rowOf A = some g) : g < w.heap.size := (h.lt g (by rw [rowOf_eq]; exact hg)).2

theorem RowsAt.keep {w w' : World} {B : Nat} {S : Nat → Prop} {A : Option Addr} {c : Nat} {l : List (Int × Int)} (h : RowsAt w A c l) (hk : Keep B S w w') (hB : w.heap.size ≤ B) (hn : ∀ g, rowOf A = some g → ¬ S g) : RowsAt w' A c l :=
  RowsAt.of_same h (fun g e => by rw [rowOf_eq] at e; exact hk.block g (Nat.lt_of_lt_of_le (own_lt h e) hB) (hn g e))

theorem RowsAt.set {w : World} {g c k : Nat} {l : List (Int × Int)} {x : Int × Int} (h : RowsAt w (some ⟨g, 0, none⟩) c l) (hk : l[k]? = some x) (v : Int) :
    RowsAt (w.setCell ⟨g, k * 2 + 1, none⟩ (.int .i64 v)) (some ⟨g, 0, none⟩) c (l.set k (x.1, v)) := by
  obtain ⟨h1, _⟩ := World.ownsRow.stored h (k * 2 + 1) (.int .i64 v)
  rw [pl.flat_set l k x v hk] at h1
  have e : (l.set k (x.1, v)).length = l.length := List.length_set
  unfold RowsAt
  rw [e]
  exact h1

end Go.Proofs.Ytamcmhadodgalaa.model
