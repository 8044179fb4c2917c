/-
  Given for the seat's laws: the contract of pieces (which hands back a function that is ranged over). No condition but those of the theorems.
-/
import Derived.Test.YthagggclhahikaaRing
namespace Go.Proofs.Ythagggclhahikaa.pieces
open Go.RowKit mem ring
set_option linter.unusedVariables false

def fromOf (N first skip : Nat) : Nat := (first + skip) % N
def toOf (N first skip n : Nat) : Nat := min (fromOf N first skip + n) N
def restOf (N first skip n : Nat) : Nat := n - (toOf N first skip n - fromOf N first skip)

/-- the four boxes of the function that pieces hands back -/
structure Boxes (w : World) (R b N first skip n : Nat) : Prop where
  x0 : Lies w R 24 #[.pointer (some ⟨b, 0, none⟩)]
  x1 : Lies w (R + 1) 3 #[.int .i64 (fromOf N first skip : Int)]
  x2 : Lies w (R + 2) 3 #[.int .i64 (toOf N first skip n : Int)]
  x3 : Lies w (R + 3) 3 #[.int .i64 (restOf N first skip n : Int)]

def Handed (b N first skip n : Nat) (w : World) (e : Ending) (w' : World) : Prop :=
  e = .returned (.func (.func 27) #[] #[.pointer (some ⟨w.heap.size, 0, none⟩), .pointer (some ⟨w.heap.size + 1, 0, none⟩), .pointer (some ⟨w.heap.size + 2, 0, none⟩), .pointer (some ⟨w.heap.size + 3, 0, none⟩)]) ∧
    Boxes w' w.heap.size b N first skip n ∧ Below w.heap.size w w'

theorem handed_of (b N first skip n : Nat) (w : World) {f t r : Int} (hf : f = (fromOf N first skip : Nat)) (ht : t = (toOf N first skip n : Nat)) (hr : r = (restOf N first skip n : Nat)) :
    Handed b N first skip n w (.returned (.func (.func 27) #[] #[.pointer (some ⟨w.heap.size, 0, none⟩), .pointer (some ⟨w.heap.size + 1, 0, none⟩), .pointer (some ⟨w.heap.size + 1 + 1, 0, none⟩), .pointer (some ⟨w.heap.size + 1 + 1 + 1, 0, none⟩)]))
      ((((w.alloc (.cells #[.pointer (some ⟨b, 0, none⟩)] 24)).alloc (.cells #[.int .i64 f] 3)).alloc (.cells #[.int .i64 t] 3)).alloc (.cells #[.int .i64 r] 3)).drew.drew := by
  subst hf ht hr
  have h0 := Lies.new w 24 #[.pointer (some ⟨b, 0, none⟩)]
  have h1 := Lies.new (w.alloc (.cells #[.pointer (some ⟨b, 0, none⟩)] 24)) 3 #[.int .i64 (fromOf N first skip : Int)]
  have h2 := Lies.new ((w.alloc (.cells #[.pointer (some ⟨b, 0, none⟩)] 24)).alloc (.cells #[.int .i64 (fromOf N first skip : Int)] 3)) 3 #[.int .i64 (toOf N first skip n : Int)]
  have h3 := Lies.new (((w.alloc (.cells #[.pointer (some ⟨b, 0, none⟩)] 24)).alloc (.cells #[.int .i64 (fromOf N first skip : Int)] 3)).alloc (.cells #[.int .i64 (toOf N first skip n : Int)] 3)) 3 #[.int .i64 (restOf N first skip n : Int)]
  simp only [World.size_alloc] at h1 h2 h3
  refine ⟨rfl, ⟨(((h0.alloc _).alloc _).alloc _).drew.drew, ((h1.alloc _).alloc _).drew.drew, (h2.alloc _).drew.drew, h3.drew.drew⟩, ?_⟩
  exact (((((Below.refl _ w).alloc (Nat.le_refl _) _).alloc (by simp) _).alloc (by simp; omega) _).alloc (by simp; omega) _).drew.drew

set_option maxHeartbeats 1000000 in
theorem pieces_any {b s N first held : Nat} {zs : List Int} (w : World) (h : IsRing w b s N first held zs) (skip n : Nat) (hs : skip ≤ 4096) (hn : n ≤ 4096) :
    Calls Try.prog 25 #[.pointer (some ⟨b, 0, none⟩), .int .i64 (skip : Int), .int .i64 (n : Int)] w (Handed b N first skip n w) := by
  have hlt := h.first_lt
  have hmx := h.most
  have hN0 : ((N : Int) == 0) = false := by simp; omega
  have hb := h.head.lt
  have hc1 := (h.head.alloc (.cells #[.pointer (some ⟨b, 0, none⟩)] 24)).cell 1
  have hc2 := (h.head.alloc (.cells #[.pointer (some ⟨b, 0, none⟩)] 24)).cell 2
  have H := Lib.hid h
  clear h
  go_enter Try.func25, Try.ntmps25
  go_wp2_with fail
  go_region
  have e : ((first : Int) + (skip : Int)) % (N : Int) = ((fromOf N first skip : Nat) : Int) := by simp [fromOf]
  rw [e]
  have hf : fromOf N first skip < N := Nat.mod_lt _ (by omega)
  clear e
  by_cases hle : fromOf N first skip + n ≤ N
  · have ht : toOf N first skip n = fromOf N first skip + n := by unfold toOf; omega
    have hr : restOf N first skip n = 0 := by unfold restOf; rw [ht]; omega
    have HT := Lib.hid ht
    have HR := Lib.hid hr
    clear ht hr
    generalize hfe : fromOf N first skip = f at *
    have HF := Lib.hid hfe
    clear hfe
    have c1 : (((w.alloc (.cells #[.pointer (some ⟨b, 0, none⟩)] 24)).alloc (.cells #[.int .i64 (f : Int)] 3)).alloc (.cells #[.int .i64 0] 3)).cell? ⟨b, 1, none⟩ = some (.slice (some ⟨s, 0, none⟩) N N) := (((H.out.head.alloc _).alloc _).alloc _).cell 1
    have c2 : ((w.alloc (.cells #[.pointer (some ⟨b, 0, none⟩)] 24)).alloc (.cells #[.int .i64 (f : Int)] 3)).cell? ⟨b, 1, none⟩ = some (.slice (some ⟨s, 0, none⟩) N N) := ((H.out.head.alloc _).alloc _).cell 1
    go_wp2_with fail
    go_region
    go_wp2
    go_ret
    exact handed_of b N first skip n w (by rw [HF.out]) (by rw [HT.out]; simp) (by rw [HR.out]; omega)
  · have ht : toOf N first skip n = N := by unfold toOf; omega
    have hr : restOf N first skip n = n - (N - fromOf N first skip) := by unfold restOf; rw [ht]
    have HT := Lib.hid ht
    have HR := Lib.hid hr
    clear ht hr
    generalize hfe : fromOf N first skip = f at *
    have HF := Lib.hid hfe
    clear hfe
    have c1 : (((w.alloc (.cells #[.pointer (some ⟨b, 0, none⟩)] 24)).alloc (.cells #[.int .i64 (f : Int)] 3)).alloc (.cells #[.int .i64 0] 3)).cell? ⟨b, 1, none⟩ = some (.slice (some ⟨s, 0, none⟩) N N) := (((H.out.head.alloc _).alloc _).alloc _).cell 1
    have c2 : ((w.alloc (.cells #[.pointer (some ⟨b, 0, none⟩)] 24)).alloc (.cells #[.int .i64 (f : Int)] 3)).cell? ⟨b, 1, none⟩ = some (.slice (some ⟨s, 0, none⟩) N N) := ((H.out.head.alloc _).alloc _).cell 1
    go_wp2_with fail
    go_region
    go_wp2
    go_ret
    exact handed_of b N first skip n w (by rw [HF.out]) (by rw [HT.out]) (by rw [HR.out]; omega)

end Go.Proofs.Ythagggclhahikaa.pieces
