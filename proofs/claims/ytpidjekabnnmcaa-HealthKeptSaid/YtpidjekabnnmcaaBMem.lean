/-
  Given for the seat's laws: what a call keeps that only makes memory of its own; a breaker as a value and as it lies; plain answers. No condition.
-/
import Derived.Test.YtpidjekabnnmcaaMem
import Derived.WalkKit
import Derived.WalkSpells
import Derived.WalkLawsBesides
import Derived.Below
import Derived.Deep.QuietTactic
import Derived.BigQuiet
import Derived.BigRegion
import Derived.StillTailTactics
import Derived.RegionTactic
import Derived.IntWalk
import Derived.Outline
import Derived.WalkMore
import Derived.OwnWalk
import Derived.Sort.Grow
import Derived.Shelf.SlSortCmp.QuietGrown
namespace Go.Proofs.Ytpidjekabnnmcaa.bk
open Go.RowKit mem
open Go.Sort (grow)
set_option linter.unusedVariables false

theorem lit_cell (w : World) (cs : Array Value) (t : TypeId) (fz : Nat × Nat) (j : Nat) : (w.alloc (.cells cs t fz)).cell? ⟨w.heap.size, j, none⟩ = cs[j]? := by
  have h : (w.alloc (.cells cs t fz)).heap[w.heap.size]? = some (.cells cs t fz) := heap_alloc_new w _
  unfold World.cell?
  rw [h]
  rfl
def True_ (w : World) (e : Ending) (w' : World) : Prop := e = .returned (.bool true) ∧ Below w.heap.size w w'
/-- what a call gives, behind a name -/
structure Bx (p : Prop) : Prop where
  out : p

/-- draws, and blocks of the call's own behind what was there; nothing else -/
structure Grew (w w' : World) : Prop where
  ex : ∃ q os', w' = grow (w.drewN q) os'
section
variable {w w' w'' : World}
theorem Grew.refl (w : World) : Grew w w := ⟨0, #[], by rw [Go.Sort.grow_empty]; rfl⟩
theorem Grew.drewN (h : Grew w w') (n : Nat) : Grew w (w'.drewN n) := by
  obtain ⟨q, os, rfl⟩ := h.ex
  refine ⟨q + n, os, ?_⟩
  show grow ((w.drewN q).drewN n) os = _
  rw [World.drewN_drewN]
theorem Grew.drew (h : Grew w w') : Grew w w'.drew := h.drewN 1
theorem Grew.grow (h : Grew w w') (os' : Array Obj) : Grew w (grow w' os') := by
  obtain ⟨q, os, rfl⟩ := h.ex
  exact ⟨q, os ++ os', by rw [Go.Sort.grow_grow]⟩
theorem Grew.trans (h : Grew w w') (k : Grew w' w'') : Grew w w'' := by
  obtain ⟨q, os, rfl⟩ := k.ex
  exact (h.drewN q).grow os
theorem Grew.alloc (h : Grew w w') (o : Obj) : Grew w (w'.alloc o) := by
  rw [Go.Sort.alloc_eq_grow]
  exact h.grow _
theorem Grew.setCell (h : Grew w w') {p : Addr} (hp : w.heap.size ≤ p.block) (u : Value) : Grew w (w'.setCell p u) := by
  obtain ⟨q, os, rfl⟩ := h.ex
  have hm := fun f => Go.Sort.modify_append_right w.heap os p.block f hp
  constructor
  have e : ∃ os', ((Go.Sort.grow (w.drewN q) os).setCell p u).heap = w.heap ++ os' := by
    have e0 : ((Go.Sort.grow (w.drewN q) os).setCell p u).heap = (w.heap ++ os).modify p.block (fun
      | .cells c elem fr => .cells (if p.spot.isSome then c else c.setIfInBounds p.off u) elem fr
      | o => o) := rfl
    exact ⟨_, e0.trans (hm _)⟩
  obtain ⟨os', e⟩ := e
  refine ⟨q, os', ?_⟩
  have e2 : (Go.Sort.grow (w.drewN q) os).setCell p u = { (Go.Sort.grow (w.drewN q) os) with heap := ((Go.Sort.grow (w.drewN q) os).setCell p u).heap } := rfl
  rw [e2, e]
  rfl
theorem Grew.below (h : Grew w w') : Below w.heap.size w w' := by
  obtain ⟨q, os, rfl⟩ := h.ex
  exact ⟨rfl, rfl, rfl, by simp, fun k hk => Go.Sort.heap_grow_old _ _ hk⟩
theorem Grew.size (h : Grew w w') : w.heap.size ≤ w'.heap.size := h.below.size
theorem Grew.cell (h : Grew w w') {a : Addr} {v : Value} (hc : w.cell? a = some v) : w'.cell? a = some v := (World.cell?_of_block (h.below.block _ (World.block_lt_of_cell? _ _ hc))).trans hc
end

/-- a breaker -/
structure Bk where
  op : Bool
  si : Int
  sp : Int
  tr : Bool
deriving DecidableEq
abbrev zb : Bk := ⟨false, 0, 0, false⟩
abbrev bv (b : Bk) : Value := .agg #[.bool b.op, .int .i64 b.si, .int .i64 b.sp, .bool b.tr]
def cl (b : Bk) : Bool := decide (b = zb)
def tk (n : Int) : Bool := decide (0 ≤ n) && decide (n ≤ 1099511619775)
def ck (c : Int) : Bool := decide (1 ≤ c) && decide (c ≤ 1000)
def may (b : Bk) : Bool := cl b || (b.op && tk b.si && decide (1 ≤ b.sp) && decide (b.sp ≤ 8000))
def st (b : Bk) (n : Int) : Int := if cl b then 0 else if may b && !decide (n < b.si + b.sp) then 2 else 1
def lets (b : Bk) (n : Int) : Bool := !decide (st b n = 1) && !b.tr
def ends (b : Bk) (t : Bool) : Bool := t && b.tr && may b
def goodb (b : Bk) (t : Bool) : Bk := if ends b t then zb else b
def backb (b : Bk) (t : Bool) : Bk := if ends b t then { b with tr := false } else b
def badE (b : Bk) (n c : Int) : Bool := !may b || !tk n || !ck c
def badb (b : Bk) (n c : Int) (t u : Bool) : Bk := if badE b n c then b else if ends b t then ⟨true, n, min (2 * b.sp) (8 * c), false⟩ else if !t && u && cl b then ⟨true, n, c, false⟩ else b
def tryE (b : Bk) (n : Int) : Bool := !tk n || !lets b n
def tryb (b : Bk) (n : Int) : Bk := if tryE b n then b else { b with tr := decide (st b n = 2) }
def tryt (b : Bk) (n : Int) : Bool := !tryE b n && decide (st b n = 2)

/-- a call's answer; it makes memory of its own only -/
def Gv (v : Value) (w : World) (e : Ending) (w' : World) : Prop := e = .returned v ∧ Grew w w'

/-- a breaker as it lies -/
structure Lays (w : World) (g : Nat) (b : Bk) : Prop where
  c0 : w.cell? ⟨g, 0, none⟩ = some (.bool b.op)
  c1 : w.cell? ⟨g, 1, none⟩ = some (.int .i64 b.si)
  c2 : w.cell? ⟨g, 2, none⟩ = some (.int .i64 b.sp)
  c3 : w.cell? ⟨g, 3, none⟩ = some (.bool b.tr)
  fz : ∀ i, w.frozen? ⟨g, i, none⟩ = false
theorem Lays.grew {w w' : World} {g : Nat} {b : Bk} (h : Lays w g b) (k : Grew w w') : Lays w' g b := ⟨k.cell h.c0, k.cell h.c1, k.cell h.c2, k.cell h.c3, fun i => by
  have e := k.below.block g (World.block_lt_of_cell? _ _ h.c0)
  have := h.fz i
  unfold World.frozen? at *
  rw [e]
  exact this⟩

theorem lit_fz (w : World) (cs : Array Value) (t : TypeId) (i : Nat) : (w.alloc (.cells cs t)).frozen? ⟨w.heap.size, i, none⟩ = false := (Lies.new w t cs).frozen i
theorem lays_box (w : World) (b : Bk) : Lays (w.alloc (.cells #[.bool b.op, .int .i64 b.si, .int .i64 b.sp, .bool b.tr] 43)) w.heap.size b :=
  ⟨by rw [lit_cell]; rfl, by rw [lit_cell]; rfl, by rw [lit_cell]; rfl, by rw [lit_cell]; rfl, lit_fz _ _ _⟩
theorem grew_box (w : World) (o : Obj) : Grew w (w.alloc o) := (Grew.refl w).alloc o
theorem tk_t {n : Int} : tk n = true ↔ 0 ≤ n ∧ n ≤ 1099511619775 := by simp [tk]
theorem ck_t {n : Int} : ck n = true ↔ 1 ≤ n ∧ n ≤ 1000 := by simp [ck]

theorem isTick_any (n : Int) (w : World) : Calls Try.prog 42 #[.int .i64 n] w (Gv (.bool (tk n)) w) := by
  unfold tk Gv
  by_cases h1 : (0 : Int) ≤ n
  · by_cases h2 : n ≤ 1099511619775
    · go_enter Try.func42, Try.ntmps42
      go_wp2
      go_ret
      exact ⟨by simp [h1, h2], Grew.refl _⟩
    · go_enter Try.func42, Try.ntmps42
      go_wp2
      go_ret
      exact ⟨by simp; omega, Grew.refl _⟩
  · go_enter Try.func42, Try.ntmps42
    go_wp2
    go_ret
    exact ⟨by simp; omega, Grew.refl _⟩
theorem isCool_any (n : Int) (w : World) : Calls Try.prog 70 #[.int .i64 n] w (Gv (.bool (ck n)) w) := by
  unfold ck Gv
  by_cases h1 : (1 : Int) ≤ n
  · by_cases h2 : n ≤ 1000
    · go_enter Try.func70, Try.ntmps70
      go_wp2
      go_ret
      exact ⟨by simp [h1, h2], Grew.refl _⟩
    · go_enter Try.func70, Try.ntmps70
      go_wp2
      go_ret
      exact ⟨by simp; omega, Grew.refl _⟩
  · go_enter Try.func70, Try.ntmps70
    go_wp2
    go_ret
    exact ⟨by simp; omega, Grew.refl _⟩
theorem closed_any (b : Bk) (w : World) : Calls Try.prog 40 #[bv b] w (Gv (.bool (cl b)) w) := by
  unfold Gv cl zb
  obtain ⟨o, s, p, t⟩ := b
  go_enter Try.func40, Try.ntmps40
  go_wp2
  all_goals
    go_ret
    refine ⟨?_, grew_box _ _⟩
    simp_all
theorem opened_any (n s : Int) (w : World) : Calls Try.prog 71 #[.int .i64 n, .int .i64 s] w (Gv (bv ⟨true, n, s, false⟩) w) := by
  unfold Gv
  go_enter Try.func71, Try.ntmps71
  go_wp2
  refine bodyPost_ret (v := bv ⟨true, n, s, false⟩) (by simp [results, Try.results71, go_sem]) rfl ⟨rfl, ?_⟩
  repeat (first | exact Grew.refl _ | apply Grew.drew | apply Grew.alloc | refine Grew.setCell ?_ (by simp) _)
end Go.Proofs.Ytpidjekabnnmcaa.bk
