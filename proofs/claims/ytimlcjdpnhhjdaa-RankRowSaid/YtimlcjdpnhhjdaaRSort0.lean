/-
  Given for the seat's laws: a row of places as it is sorted by their scores. No condition but those of the theorems.
-/
import Derived.Test.YtimlcjdpnhhjdaaRCmp
import Derived.Sort.AssemblyPlain
import Derived.Shelf.SlSortCmp.QuietGrown
namespace Go.Proofs.Ytimlcjdpnhhjdaa.rk
open Go.RowKit mem sp
open Go.Sort (grow swp PermIn SortedIn)
set_option linter.unusedVariables false

theorem swo (S : Nat → Sc) : Go.Sort.SWO (before S) where
  irrefl x := before_irrefl x
  trans x y z h k := before_trans h k
  ntrans x y z h k := by
    cases hz : before S x z
    · rfl
    · exfalso
      by_cases e : x = y
      · subst e; rw [hz] at k; cases k
      · by_cases e2 : y = z
        · subst e2; rw [hz] at h; cases h
        · have h1 : before S y x = true := (before_total y x (fun q => e q.symm)).resolve_right (by rw [h]; simp)
          have h2 : before S z y = true := (before_total z y (fun q => e2 q.symm)).resolve_right (by rw [k]; simp)
          have h3 := before_trans (before_trans h2 h1) hz
          rw [before_irrefl] at h3
          cases h3

def rowc (d : Array Nat) : Array Value := d.map fun k : Nat => .int .i64 (k : Int)
theorem rowc_size (d : Array Nat) : (rowc d).size = d.size := by simp [rowc]
theorem get_bang {d : Array Nat} {i : Nat} (h : i < d.size) : d[i]! = d[i] := by simp [h]
theorem rowc_get {d : Array Nat} {i : Nat} (h : i < d.size) : (rowc d)[i]? = some (.int .i64 (d[i]! : Int)) := by
  rw [get_bang h]
  simp [rowc, h]
theorem rowc_swp (d : Array Nat) (i j : Nat) : rowc (swp d i j) = ((rowc d).setIfInBounds i (.int .i64 (d[j]! : Int))).setIfInBounds j (.int .i64 (d[i]! : Int)) := by
  simp [rowc, swp, Array.map_setIfInBounds]

/-- the world in which the row g holds d, the scores lie in sb, and nothing else that lay in w0 has turned -/
structure SS (w0 : World) (g sb : Nat) (S : Nat → Sc) (n : Nat) (d : Array Nat) (W : World) : Prop where
  row : Lies W g 3 (rowc d)
  keep : Keep w0.heap.size (fun k => k = g) w0 W
  scs : Scs W sb S n
  lt : ∀ i, i < d.size → d[i]! < n
  ne : sb ≠ g
/-- the comparison as it is handed over -/
abbrev fv (sb n : Nat) : Value := .func (.func 27) #[.slice (some ⟨sb, 0, none⟩) n n] #[]
section
variable {w0 W W' : World} {g sb n : Nat} {S : Nat → Sc} {d d' : Array Nat}
theorem SS.grew (h : SS w0 g sb S n d W) (hg : Grew W W') : SS w0 g sb S n d W' :=
  ⟨h.row.below hg.below h.row.lt, h.keep.trans ((Keep.of_below hg.below _).mono h.keep.size (fun _ _ e => e)), h.scs.grew hg, h.lt, h.ne⟩
theorem SS.cell (h : SS w0 g sb S n d W) {i : Nat} (hi : i < d.size) : W.cell? ⟨g, i, none⟩ = some (.int .i64 (d[i]! : Int)) := by
  rw [h.row.cell, rowc_get hi]
theorem SS.live (h : SS w0 g sb S n d W) (i : Nat) : W.frozen? ⟨g, i, none⟩ = false := h.row.frozen i
theorem grew_of (W : World) (m : Nat) (os : Array Obj) : Grew W (grow (W.drewN m) os) := ⟨m, os, rfl⟩
theorem SS.cl (h : SS w0 g sb S n d W) {i : Nat} (hi : i < d.size) (m : Nat) (os : Array Obj) : (grow (W.drewN m) os).cell? ⟨g, i, none⟩ = some (.int .i64 (d[i]! : Int)) := (h.grew (grew_of W m os)).cell hi
theorem SS.cmp (h : SS w0 g sb S n d W) (hn : n ≤ 1000) {x y : Nat} (hx : x < n) (hy : y < n) (m : Nat) (os : Array Obj) :
    Calls Try.prog 27 #[.slice (some ⟨sb, 0, none⟩) n n, .int .i64 (x : Int), .int .i64 (y : Int)] (grow (W.drewN m) os) fun e w'' => e = .returned (.int .i64 (cfv S x y)) ∧ ∃ p : GrownBy, w'' = grow (W.drewN p.n) p.os :=
  (compare_any (h.grew (grew_of W m os)).scs hx hy hn).mono fun e w' he => by
    obtain ⟨rfl, hg⟩ := he
    obtain ⟨q, os', hq⟩ := ((grew_of W m os).trans hg).ex
    exact ⟨rfl, ⟨q, os'⟩, hq⟩
theorem swp_sz (d : Array Nat) (i j : Nat) : (swp d i j).size = d.size := Go.Sort.swp_size d i j
theorem SS.perm (h : ∀ i, i < d.size → d[i]! < n) {a b : Nat} (hb : b ≤ d.size) (hp : PermIn a b d d') : ∀ i, i < d'.size → d'[i]! < n := by
  have hp2 : PermIn 0 d.size d d' := Go.Sort.permIn_mono d d' a b 0 d.size (Nat.zero_le _) hb (Nat.le_refl _) hp
  intro i hi
  exact Go.Sort.permIn_all d d' 0 d.size (fun x => x < n) (Nat.le_refl _) hp2 (fun i _ hi => h i hi) i (Nat.zero_le _) (by rw [← hp.1]; exact hi)
theorem SS.swap (h : SS w0 g sb S n d W) {i j : Nat} (hi : i < d.size) (hj : j < d.size) : SS w0 g sb S n (swp d i j) ((W.setCell ⟨g, i, none⟩ (.int .i64 (d[j]! : Int))).setCell ⟨g, j, none⟩ (.int .i64 (d[i]! : Int))) := by
  refine ⟨?_, (h.keep.setCell (p := ⟨g, i, none⟩) (.inr rfl) _).setCell (p := ⟨g, j, none⟩) (.inr rfl) _, h.scs.keep ?_, ?_, h.ne⟩
  · rw [rowc_swp]
    exact (h.row.set i _).set j _
  · rw [Below.heap_setCell _ _ _ _ (by exact h.ne), Below.heap_setCell _ _ _ _ (by exact h.ne)]
  · intro k hk
    rw [swp_sz] at hk
    rw [Go.Sort.swp_get d hi hj k]
    split
    · exact h.lt _ (by omega)
    · split
      · exact h.lt _ (by omega)
      · exact h.lt _ hk
/-- behind the first store the second place still holds something -/
theorem SS.cell2 (h : SS w0 g sb S n d W) {i j : Nat} (hi : i < d.size) (hj : j < d.size) (v : Value) : ∃ u, (W.setCell ⟨g, i, none⟩ v).cell? ⟨g, j, none⟩ = some u := by
  by_cases e : i = j
  · subst e
    exact ⟨v, World.cell?_setCell_same _ _ _ (h.cell hi)⟩
  · exact ⟨_, (World.cell?_setCell_other _ _ _ _ (by simp only [ne_eq, Addr.mk.injEq]; omega)).trans (h.cell hj)⟩
theorem SS.drew (h : SS w0 g sb S n d W) : SS w0 g sb S n d W.drew := h.grew ((Grew.refl W).drew)
end
def SortTo (w0 : World) (g sb : Nat) (S : Nat → Sc) (n : Nat) (d : Array Nat) (e : Ending) (w' : World) : Prop := e = .returned (.tuple #[]) ∧ SS w0 g sb S n d w'
end Go.Proofs.Ytimlcjdpnhhjdaa.rk
