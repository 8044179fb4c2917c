/-
  Given for the seat's laws: values as they lie one behind the other, rows of the call's own, numbers and bools as rows. No condition but those of the theorems.
-/
import Derived.Test.YtpidjekabnnmcaaQOps
import Derived.Laws.AppendOwn
import Derived.Laws.OwnMore
import Derived.Deep.AppendLies
namespace Go.Proofs.Ytpidjekabnnmcaa.pl
open Go.RowKit mem find pb
set_option linter.unusedVariables false

/-- numbers, bools as values -/
def I8 (xs : List Int) : List Value := xs.map (Value.int .i64)
theorem I8_len (xs : List Int) : (I8 xs).length = xs.length := by simp [I8]
theorem I8_get {xs : List Int} {j : Nat} {z : Int} (h : xs[j]? = some z) : (I8 xs)[j]? = some (.int .i64 z) := by unfold I8; rw [List.getElem?_map, h]; rfl
def BV (l : List Bool) : List Value := l.map Value.bool
theorem BV_len (l : List Bool) : (BV l).length = l.length := by simp [BV]
theorem BV_get {l : List Bool} {j : Nat} {z : Bool} (h : l[j]? = some z) : (BV l)[j]? = some (.bool z) := by unfold BV; rw [List.getElem?_map, h]; rfl

/-- values as they lie one behind the other, in a block that ok lets in -/
structure RowAt (w : World) (ok : Nat → Prop) (A : Option Addr) (vs : List Value) : Prop where
  ex : 0 < vs.length → ∃ g off, A = some ⟨g, off, none⟩ ∧ ok g ∧ ∀ (j : Nat) (v : Value), vs[j]? = some v → w.cell? ⟨g, off + j, none⟩ = some v
section
variable {w w' : World} {ok ok' : Nat → Prop} {A : Option Addr} {vs : List Value}
theorem RowAt.keep (h : RowAt w ok A vs) (hk : ∀ g, ok g → w'.heap[g]? = w.heap[g]?) : RowAt w' ok A vs := ⟨fun hp => by
  obtain ⟨g, off, e, ho, hc⟩ := h.ex hp
  exact ⟨g, off, e, ho, fun j v hv => (World.cell?_of_block (hk g ho)).trans (hc j v hv)⟩⟩
theorem RowAt.weak (h : RowAt w ok A vs) (hk : ∀ g, ok g → ok' g) : RowAt w ok' A vs := ⟨fun hp => by
  obtain ⟨g, off, e, ho, hc⟩ := h.ex hp
  exact ⟨g, off, e, hk g ho, hc⟩⟩
theorem RowAt.below {B : Nat} (h : RowAt w ok A vs) (hb : Below B w w') (hg : ∀ g, ok g → g < B) : RowAt w' ok A vs := h.keep fun g hk => hb.block g (hg g hk)
theorem RowAt.cell (h : RowAt w ok A vs) {j : Nat} {v : Value} (hv : vs[j]? = some v) : ∃ g off, A = some ⟨g, off, none⟩ ∧ ok g ∧ w.cell? ⟨g, off + j, none⟩ = some v := by
  obtain ⟨g, off, e, ho, hc⟩ := h.ex (by have := (List.getElem?_eq_some_iff.1 hv).1; omega)
  exact ⟨g, off, e, ho, hc j v hv⟩
theorem RowAt.of_lies {g : Nat} {t : TypeId} {cs : Array Value} (h : Lies w g t cs) (ho : ok g) (hv : cs.toList = vs) : RowAt w ok (some ⟨g, 0, none⟩) vs := ⟨fun _ => ⟨g, 0, rfl, ho, fun j v hj => by
  rw [Nat.zero_add, h.cell]
  rw [← hv] at hj
  simpa using hj⟩⟩
theorem RowAt.nil : RowAt w ok A [] := ⟨fun hp => absurd hp (by simp)⟩
/-- a row of the call's own -/
theorem RowAt.of_own {B : Nat} {t : TypeId} {n c : Nat} (h : w.ownsRow B t 1 (.slice A n c) n vs) : RowAt w (fun g => B ≤ g ∧ g < w.heap.size ∧ rowOf A = some g) A vs := ⟨fun hp => by
  have hl := h.1
  rcases h.2 with ⟨hv, hn⟩ | ⟨g, cap, cur, hv, hb, hh, hnc, hm, hs, ht⟩
  · subst hn; simp at hl; subst hl; simp at hp
  · simp only [Value.slice.injEq] at hv
    obtain ⟨rfl, _, rfl⟩ := hv
    refine ⟨g, 0, rfl, ⟨hb, (Array.getElem?_eq_some_iff.1 hh).1, rfl⟩, fun j v hj => ?_⟩
    rw [← ht, List.getElem?_take] at hj
    split at hj
    · simp [World.cell?, hh, Nat.zero_add]
      simpa using hj
    · cases hj⟩
end
end Go.Proofs.Ytpidjekabnnmcaa.pl
