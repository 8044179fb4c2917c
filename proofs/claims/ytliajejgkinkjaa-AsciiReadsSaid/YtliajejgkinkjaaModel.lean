/-
  Given for the seat's laws: the document's reader as it lies in memory, and the contract of its Bytes. No condition but those of the theorems.
-/
import Derived.Test.YtliajejgkinkjaaAppend
import Derived.Test.YtliajejgkinkjaaNext
namespace Go.Proofs.Ytliajejgkinkjaa.model
open Go.RowKit mem reader
set_option linter.unusedVariables false

/-- THE DOCUMENT'S READER, in block m: it reads xs, of which the first k have been read; of base B on. -/
structure Mod (w : World) (B m : Nat) (A : Option Addr) (n c : Nat) (xs : List Int) (k : Nat) : Prop where
  head : Lies w m 32 #[.slice A n c, .int .i64 (k : Int)]
  own : w.ownsRow B 5 1 (.slice A n c) n (B8 xs)
  len : xs.length = n
  le : k ≤ n
  small : n ≤ 5000
  rng : ∀ x ∈ xs, 0 ≤ x ∧ x < 256
  base : B ≤ m

section
variable {w w' : World} {B m : Nat} {A : Option Addr} {n c : Nat} {xs : List Int} {k : Nat}
theorem Mod.src (h : Mod w B m A n c xs k) : Src w (fun g => B ≤ g ∧ g < w.heap.size ∧ (Value.slice A n c).ownBlock = some g) A n c xs := src_of_own h.own h.rng
theorem Mod.ne (h : Mod w B m A n c xs k) : (Value.slice A n c).ownBlock ≠ some m := own_ne h.own h.head (by decide)
theorem Mod.keep (h : Mod w B m A n c xs k) (hr : w'.heap[m]? = w.heap[m]?) (hd : ∀ g, (Value.slice A n c).ownBlock = some g → w'.heap[g]? = w.heap[g]?) : Mod w' B m A n c xs k :=
  ⟨h.head.of_same hr, own_same h.own hd, h.len, h.le, h.small, h.rng, h.base⟩
theorem Mod.below {B' : Nat} (h : Mod w B m A n c xs k) (hb : Below B' w w') (hB : w.heap.size ≤ B') : Mod w' B m A n c xs k :=
  h.keep (hb.block _ (by have := h.head.lt; omega)) (fun g hg => hb.block _ (by have := (own_lt h.own hg).2; omega))
theorem Mod.move (h : Mod w B m A n c xs k) (j : Nat) (hj : j ≤ n) : Mod (w.setCell ⟨m, 1, none⟩ (.int .i64 (j : Int))) B m A n c xs j := by
  have hs := h.head.set 1 (.int .i64 (j : Int))
  exact ⟨by simpa using hs, own_same h.own (fun g hg => Below.heap_setCell _ _ _ _ (fun e => by subst e; exact h.ne hg)), h.len, hj, h.small, h.rng, h.base⟩
end

/-- what a call of the document's reader leaves -/
structure MLeft (w w' : World) (B m : Nat) (A : Option Addr) (n c : Nat) (xs : List Int) (k : Nat) : Prop where
  has : Mod w' B m A n c xs k
  keep : Keep w.heap.size (fun g => g = m) w w'

section
variable {w w1 : World} {B m : Nat} {A : Option Addr} {n c : Nat} {xs : List Int} {k : Nat}
theorem MLeft.stay (h : Mod w B m A n c xs k) (hb : Below w.heap.size w w1) : MLeft w w1 B m A n c xs k := ⟨h.below hb (Nat.le_refl _), Keep.of_below hb _⟩
theorem MLeft.moved (h : Mod w B m A n c xs k) (hb : Below w.heap.size w w1) (j : Nat) (hj : j ≤ n) : MLeft w (w1.setCell ⟨m, 1, none⟩ (.int .i64 (j : Int))) B m A n c xs j :=
  ⟨(h.below hb (Nat.le_refl _)).move j hj, (Keep.of_below hb (fun g => g = m)).setCell (p := ⟨m, 1, none⟩) (.inr rfl) _⟩

def MReads (v : Value) (w : World) (B m : Nat) (A : Option Addr) (n c : Nat) (xs : List Int) (k : Nat) (e : Ending) (w' : World) : Prop := e = .returned v ∧ MLeft w w' B m A n c xs k

set_option maxHeartbeats 400000 in
theorem mbytes_neg (h : Mod w B m A n c xs k) (j : Int) (hj : j < 0) : Calls Try.prog 24 #[.pointer (some ⟨m, 0, none⟩), .int .i64 j] w (MReads (.tuple #[.slice none 0 0, .int .i64 2]) w B m A n c xs k) := by
  have HH := Lib.hid h
  clear h
  go_enter Try.func24, Try.ntmps24
  go_wp2
  go_ret2
  exact ⟨rfl, MLeft.stay HH.out (Below.refl _ _)⟩

set_option maxHeartbeats 400000 in
theorem mbytes_more (h : Mod w B m A n c xs k) (j : Int) (hj : 0 ≤ j) (hk : (n : Int) < (k : Int) + j) : Calls Try.prog 24 #[.pointer (some ⟨m, 0, none⟩), .int .i64 j] w (MReads (.tuple #[.slice none 0 0, .int .i64 5]) w B m A n c xs k) := by
  have HH := Lib.hid h
  have hle := h.le
  have hsm := h.small
  have c0 := h.head.cell 0
  have c1 := h.head.cell 1
  have hgt : (n : Int) - (k : Int) < j := by omega
  clear h hk
  go_enter Try.func24, Try.ntmps24
  go_wp2_with fail
  go_quiet (fail)
  generalize hW : World.drewN w _ = wp
  have HS := Lib.hid (show Still w wp from ⟨_, hW.symm⟩)
  clear hW
  go_wp2
  go_ret2
  exact ⟨rfl, MLeft.stay HH.out (HS.out.below _)⟩

/-- what Bytes returns, where there are as many -/
def MBytes (w : World) (B m : Nat) (A : Option Addr) (n c : Nat) (xs : List Int) (k j : Nat) (e : Ending) (w' : World) : Prop :=
  ∃ A' c', e = .returned (.tuple #[.slice A' j c', .int .i64 0]) ∧ w'.ownsRow w.heap.size 5 1 (.slice A' j c') j (B8 ((xs.drop k).take j)) ∧ MLeft w w' B m A n c xs (k + j)

set_option maxHeartbeats 1000000 in
theorem mbytes_ok (h : Mod w B m A n c xs k) (j : Nat) (hk : k + j ≤ n) : Calls Try.prog 24 #[.pointer (some ⟨m, 0, none⟩), .int .i64 (j : Int)] w (MBytes w B m A n c xs k j) := by
  have HH := Lib.hid h
  have hle := h.le
  have hsm := h.small
  have hcap := h.src.cap
  have c0 := h.head.cell 0
  have c1 := h.head.cell 1
  have hgt : ¬ (n : Int) - (k : Int) < (j : Int) := by omega
  have HCUT := Lib.hid (fun W => cut_run W A n c k j (by omega))
  have HC := Lib.hid (fun (W : World) (hW : Still w W) => copy_any ((h.src.still hW).cut k j hk) (by omega))
  have hw1 : IntKind.i64.wrap ((k : Int) + (j : Int)) = (k : Int) + (j : Int) := IntWalk.i64_in _ (by omega)
  clear h
  go_enter Try.func24, Try.ntmps24
  go_wp2_with fail
  go_quiet (fail)
  generalize hW : World.drewN w _ = w2
  have hst : Still w w2 := ⟨_, hW.symm⟩
  have d0 : w2.cell? ⟨m, 0, none⟩ = some (.slice A n c) := (hst.cell _).trans c0
  have d1 : w2.cell? ⟨m, 1, none⟩ = some (.int .i64 (k : Int)) := (hst.cell _).trans c1
  have HST := Lib.hid hst
  clear hW hst c0 c1
  go_wp2_with fail
  have hcut := HCUT.out
  go_still_tail 15, (by kernel_rfl)
  change wpList _ _ _ _ _ w2.drew
  have hst3 : Still w w2.drew := HST.out.trans (Still.drew1 _)
  generalize w2.drew = w3 at *
  have HS3 := Lib.hid hst3
  clear hst3
  go_wp2_with fail
  refine (HC.out _ HS3.out).mono ?_
  rintro e w4 ⟨A', c', rfl, ho, hb⟩
  have hb4 : Below w.heap.size w w4 := (HS3.out.below _).trans (hb.mono (by rw [Still.size HS3.out]; exact Nat.le_refl _))
  have hm4 := HH.out.below hb4 (Nat.le_refl _)
  have e0 : w4.cell? ⟨m, 0, none⟩ = some (.slice A n c) := hm4.head.cell 0
  have e1 : w4.cell? ⟨m, 1, none⟩ = some (.int .i64 (k : Int)) := hm4.head.cell 1
  have e2 : w4.frozen? ⟨m, 1, none⟩ = false := hm4.head.frozen 1
  rw [Still.size HS3.out] at ho
  have HO := Lib.hid ho
  have HB := Lib.hid hb4
  clear ho hb hb4 hm4 d0 d1 hcut
  go_wp2
  go_ret2
  have ej : (k : Int) + (j : Int) = ((k + j : Nat) : Int) := by omega
  rw [ej]
  refine ⟨A', c', rfl, own_same HO.out (fun g hg => Below.heap_setCell _ _ _ _ (fun e => by have := (own_lt HO.out hg).1; have := HH.out.head.lt; simp at e; omega)), MLeft.moved HH.out HB.out _ hk⟩
end

end Go.Proofs.Ytliajejgkinkjaa.model
