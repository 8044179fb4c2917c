/-
  Given for the seat's laws: the function that hands out the letters of bytes, one behind the other. No condition but those of the theorems.
-/
import Derived.Test.YtiloeffnmkcaoaaSRDec
namespace Go.Proofs.Ytiloeffnmkcaoaa.sx
open Go.RowKit mem
set_option linter.unusedVariables false

/-- what the function holds: so many bits, what is left of the bytes, the bits -/
structure Ch (W : World) (bh bb bx : Nat) (ok : Nat → Prop) (h r : Nat) (l : Str) : Prop where
  ch : ∃ B : Nat, Lies W bx 53 #[.int .u64 (B : Int)] ∧ B < 18446744073709551616 ∧ B % 2 ^ h = r
  cl : Lies W bh 3 #[.int .i64 (h : Int)]
  cb : ∃ A n c, Lies W bb 22 #[.slice A n c] ∧ Spell W ok A n c l
theorem Ch.keep {W W' : World} {bh bb bx : Nat} {ok : Nat → Prop} {h r : Nat} {l : Str} (H : Ch W bh bb bx ok h r l) (h1 : W'.heap[bh]? = W.heap[bh]?) (h2 : W'.heap[bb]? = W.heap[bb]?) (h3 : W'.heap[bx]? = W.heap[bx]?) (hok : ∀ g, ok g → W'.heap[g]? = W.heap[g]?) : Ch W' bh bb bx ok h r l := by
  obtain ⟨⟨B, hB, hb⟩, hl, A, n, c, hc, hs⟩ := H
  exact ⟨⟨B, hB.of_same h3, hb⟩, hl.of_same h1, A, n, c, hc.of_same h2, hs.keep hok⟩

/-- what of the world a call of it turns -/
structure ChTurn (W W' : World) (bh bb bx : Nat) : Prop where
  os : W'.os = W.os
  tape : W'.tape = W.tape
  output : W'.output = W.output
  size : W'.heap.size = W.heap.size
  block : ∀ g, g ≠ bh → g ≠ bb → g ≠ bx → W'.heap[g]? = W.heap[g]?
theorem ChTurn.refl (W : World) (bh bb bx : Nat) : ChTurn W W bh bb bx := ⟨rfl, rfl, rfl, rfl, fun _ _ _ _ => rfl⟩
theorem ChTurn.drew {W W' : World} {bh bb bx : Nat} (h : ChTurn W W' bh bb bx) : ChTurn W W'.drew bh bb bx := ⟨h.os, h.tape, h.output, h.size, h.block⟩
theorem ChTurn.set {W W' : World} {bh bb bx : Nat} (h : ChTurn W W' bh bb bx) {g : Nat} (hg : g = bh ∨ g = bb ∨ g = bx) (v : Value) : ChTurn W (W'.setCell ⟨g, 0, none⟩ v) bh bb bx :=
  ⟨h.os, h.tape, h.output, by simp [World.setCell, h.size], fun k h1 h2 h3 => (Below.heap_setCell _ _ _ _ (by rcases hg with rfl | rfl | rfl <;> assumption)).trans (h.block k h1 h2 h3)⟩

def ChTo (bh bb bx : Nat) (ok : Nat → Prop) (h r : Nat) (l : Str) (W : World) (e : Ending) (W' : World) : Prop :=
  ChTurn W W' bh bb bx ∧ match nxt h r l with
  | none => e = .returned (.tuple #[.int .u8 0, .bool false]) ∧ Ch W' bh bb bx ok h r l
  | some (c, h', r', l') => e = .returned (.tuple #[.int .u8 ((lt c).toNat : Int), .bool true]) ∧ Ch W' bh bb bx ok h' r' l'

theorem chars_any (A : Option Addr) (n c : Nat) (w : World) : Calls Try.prog 16 #[.slice A n c] w fun e w' =>
    e = .returned (.func (.func 28) #[] #[.pointer (some ⟨w.heap.size + 1 + 1, 0, none⟩), .pointer (some ⟨w.heap.size, 0, none⟩), .pointer (some ⟨w.heap.size + 1, 0, none⟩)]) ∧
    w' = ((w.alloc (.cells #[.slice A n c] 22)).alloc (.cells #[.int .u64 0] 53)).alloc (.cells #[.int .i64 0] 3) := by
  go_enter Try.func16, Try.ntmps16
  go_wp2
  go_ret
  exact ⟨rfl, rfl⟩
theorem ch_new {w : World} {ok : Nat → Prop} {A : Option Addr} {n c : Nat} {l : Str} (hs : Spell w ok A n c l) (hok : ∀ g, ok g → g < w.heap.size) :
    Ch (((w.alloc (.cells #[.slice A n c] 22)).alloc (.cells #[.int .u64 0] 53)).alloc (.cells #[.int .i64 0] 3)) (w.heap.size + 1 + 1) w.heap.size (w.heap.size + 1) ok 0 0 l := by
  have h1 := Lies.new w 22 #[.slice A n c]
  have h2 := Lies.new (w.alloc (.cells #[.slice A n c] 22)) 53 #[.int .u64 0]
  have h3 := Lies.new ((w.alloc (.cells #[.slice A n c] 22)).alloc (.cells #[.int .u64 0] 53)) 3 #[.int .i64 0]
  have z1 : (w.alloc (.cells #[.slice A n c] 22)).heap.size = w.heap.size + 1 := by simp
  have z2 : ((w.alloc (.cells #[.slice A n c] 22)).alloc (.cells #[.int .u64 0] 53)).heap.size = w.heap.size + 1 + 1 := by simp
  rw [z1] at h2
  rw [z2] at h3
  have hb : Below w.heap.size w (((w.alloc (.cells #[.slice A n c] 22)).alloc (.cells #[.int .u64 0] 53)).alloc (.cells #[.int .i64 0] 3)) :=
    (((Below.refl _ _).alloc (Nat.le_refl _) _).alloc (by simp) _).alloc (by simp; omega) _
  exact ⟨⟨0, h2.alloc _, by omega, rfl⟩, h3, A, n, c, (h1.alloc _).alloc _, hs.below hb hok⟩
end Go.Proofs.Ytiloeffnmkcaoaa.sx
