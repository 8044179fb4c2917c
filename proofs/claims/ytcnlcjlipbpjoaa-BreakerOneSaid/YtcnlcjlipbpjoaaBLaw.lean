/-
  Given for the seat's laws: a breaker stored where one lies; a call amid a drawn region; a walk at a world of which this is known. No condition but those of the theorems.
-/
import Derived.Test.YtcnlcjlipbpjoaaBRef2
import Derived.Test.YtcnlcjlipbpjoaaBRTry
import Derived.Test.YtcnlcjlipbpjoaaBRBad
namespace Go.Proofs.Ytcnlcjlipbpjoaa.bk
open Go.RowKit mem
open Go.Sort (grow)
set_option linter.unusedVariables false

theorem wp_at {C : Code} {P : Program} {Q : Exit → Act → World → Prop} {a : Act} {w : World} (F : World → Prop) (hf : F w) (h : ∀ W, F W → C.wp P Q a W) : C.wp P Q a w := h w hf
abbrev put (w : World) (g : Nat) (b : Bk) : World := (((w.setCell ⟨g, 0, none⟩ (.bool b.op)).setCell ⟨g, 1, none⟩ (.int .i64 b.si)).setCell ⟨g, 2, none⟩ (.int .i64 b.sp)).setCell ⟨g, 3, none⟩ (.bool b.tr)
theorem cell_far {w : World} {g g' i j : Nat} {u v : Value} (h : w.cell? ⟨g, i, none⟩ = some v) (hne : g' ≠ g ∨ j ≠ i) : (w.setCell ⟨g', j, none⟩ u).cell? ⟨g, i, none⟩ = some v :=
  (World.cell?_setCell_other w ⟨g', j, none⟩ ⟨g, i, none⟩ u (by intro e; cases e; rcases hne with h | h <;> exact h rfl)).trans h
theorem cell_here {w : World} {g i : Nat} (u : Value) {v : Value} (h : w.cell? ⟨g, i, none⟩ = some v) : (w.setCell ⟨g, i, none⟩ u).cell? ⟨g, i, none⟩ = some u := World.cell?_setCell_same w ⟨g, i, none⟩ u h
theorem frozen_set (w : World) (p q : Addr) (u : Value) : (w.setCell p u).frozen? q = w.frozen? q := by simp
theorem Lays.put {w : World} {g : Nat} {b0 : Bk} (h : Lays w g b0) (b : Bk) : Lays (put w g b) g b := by
  have h0 := cell_here (.bool b.op) h.c0
  have h1 := cell_here (.int .i64 b.si) (cell_far (g' := g) (j := 0) (u := .bool b.op) h.c1 (.inr (by decide)))
  have h2 := cell_here (.int .i64 b.sp) (cell_far (g' := g) (j := 1) (u := .int .i64 b.si) (cell_far (g' := g) (j := 0) (u := .bool b.op) h.c2 (.inr (by decide))) (.inr (by decide)))
  have h3 := cell_here (.bool b.tr) (cell_far (g' := g) (j := 2) (u := .int .i64 b.sp) (cell_far (g' := g) (j := 1) (u := .int .i64 b.si) (cell_far (g' := g) (j := 0) (u := .bool b.op) h.c3 (.inr (by decide))) (.inr (by decide))) (.inr (by decide)))
  exact ⟨cell_far (cell_far (cell_far h0 (.inr (by decide))) (.inr (by decide))) (.inr (by decide)), cell_far (cell_far h1 (.inr (by decide))) (.inr (by decide)), cell_far h2 (.inr (by decide)), h3, fun i => by
    rw [frozen_set, frozen_set, frozen_set, frozen_set]; exact h.fz i⟩
theorem Lays.far {w : World} {g g' : Nat} {b : Bk} (h : Lays w g b) (hne : g' ≠ g) (b' : Bk) : Lays (bk.put w g' b') g b := by
  have f : ∀ {i : Nat} {v : Value}, w.cell? ⟨g, i, none⟩ = some v → (bk.put w g' b').cell? ⟨g, i, none⟩ = some v := fun h => cell_far (cell_far (cell_far (cell_far h (.inl hne)) (.inl hne)) (.inl hne)) (.inl hne)
  exact ⟨f h.c0, f h.c1, f h.c2, f h.c3, fun i => by rw [frozen_set, frozen_set, frozen_set, frozen_set]; exact h.fz i⟩
theorem Lays.lt {w : World} {g : Nat} {b : Bk} (h : Lays w g b) : g < w.heap.size := World.block_lt_of_cell? _ _ h.c0
theorem Lays.ne {w : World} {g : Nat} {b : Bk} (h : Lays w g b) : w.heap.size ≠ g := by have := h.lt; omega
theorem Grew.put {w w' : World} (h : Grew w w') {g : Nat} (hg : w.heap.size ≤ g) (b : Bk) : Grew w (bk.put w' g b) :=
  (((h.setCell (p := ⟨g, 0, none⟩) hg _).setCell (p := ⟨g, 1, none⟩) hg _).setCell (p := ⟨g, 2, none⟩) hg _).setCell (p := ⟨g, 3, none⟩) hg _
/-- a breaker of the call's own, fresh -/
abbrev newz (w : World) : World := w.alloc (.cells #[.bool false, .int .i64 0, .int .i64 0, .bool false] 23)
theorem lays_newz (w : World) : Lays (newz w) w.heap.size zb := lays_box w zb
theorem Lays.new {w : World} {g : Nat} {b : Bk} (h : Lays w g b) (o : Obj) : Lays (w.alloc o) g b := h.grew (grew_box w o)
/-- what is made and put -/
theorem lays_made (w : World) (b : Bk) : Lays (put (newz w) w.heap.size b) w.heap.size b := (lays_newz w).put b
theorem Lays.made {w : World} {g : Nat} {b : Bk} (h : Lays w g b) (b' : Bk) : Lays (bk.put (newz w) w.heap.size b') g b := (h.new _).far (by have := h.lt; omega) b'
theorem grew_made (w : World) (b : Bk) : Grew w (put (newz w) w.heap.size b) := (grew_box w _).put (Nat.le_refl _) b

theorem grown_call {P : Program} {f : FuncId} {args : Array Value} {v : Value} (h : ∀ w, Calls P f args w fun e w' => e = .returned v ∧ Grew w w') (W : World) (n : Nat) (os : Array Obj) :
    Calls P f args (grow (W.drewN n) os) fun e w'' => e = .returned v ∧ ∃ p : GrownBy, w'' = grow (W.drewN p.n) p.os :=
  Calls.grown_of ((h _).mono fun e w' ⟨he, hg⟩ => ⟨he, hg.ex⟩)
theorem grew_grow (w : World) (n : Nat) (os : Array Obj) : Grew w (grow (w.drewN n) os) := ⟨n, os, rfl⟩
/-- a breaker as it lies, in every world behind -/
structure LaysG (w : World) (g : Nat) (b : Bk) : Prop where
  at_ : ∀ n os, Lays (grow (w.drewN n) os) g b
theorem Lays.g {w : World} {g : Nat} {b : Bk} (h : Lays w g b) : LaysG w g b := ⟨fun n os => h.grew (grew_grow w n os)⟩
end Go.Proofs.Ytcnlcjlipbpjoaa.bk
