/-
  Given for the seat's laws: places everywhere, and what a text of great letters everywhere is. No condition but those of the theorems.
-/
import Derived.Test.YtpllhnknejceiaaGreatDoorHOne
import Derived.OwnWalk
namespace Go.Proofs.YtpllhnknejceiaaGreatDoor.hw
open Go.RowKit mem hostp own
set_option linter.unusedVariables false

/-- the row on the way: j places are set -/
def setTo (n j : Nat) : List Value := List.replicate j (.bool true) ++ List.replicate (n - j) (.bool false)
theorem setTo_zero (n : Nat) : (madeCells #[Value.bool false] (n * 1)).toList = setTo n 0 := by
  rw [Nat.mul_one, toList_madeCells_one]
  simp [setTo]
theorem setTo_get {n j : Nat} (h : j < n) : (setTo n j)[j]? = some (.bool false) := by
  unfold setTo
  rw [List.getElem?_append_right (by simp), List.length_replicate, Nat.sub_self, List.getElem?_replicate, if_pos (by omega)]
theorem setTo_set {n j : Nat} (h : j < n) : (setTo n j).set j (.bool true) = setTo n (j + 1) := by
  unfold setTo
  rw [List.set_append_right _ _ (by simp)]
  simp only [List.length_replicate, Nat.sub_self]
  rw [show n - j = (n - (j + 1)) + 1 by omega, List.replicate_succ, List.set_cons_zero, List.replicate_succ']
  simp
theorem setTo_end (n : Nat) : setTo n n = List.replicate n (.bool true) := by simp [setTo]
structure AllI (w : World) (n j : Nat) (wr : World) : Prop where
  own : wr.ownsRow w.heap.size 4 1 (.slice (some ⟨w.heap.size, 0, none⟩) n n) n (setTo n j)
  below : Below w.heap.size w wr
def AllTo (n : Nat) (w : World) (e : Ending) (w' : World) : Prop := ∃ A, e = .returned (.slice A n n) ∧ Bools w' A n (List.replicate n true) ∧ Below w.heap.size w w'

set_option maxRecDepth 100000 in
set_option maxHeartbeats 1600000 in
theorem all_any (n : Nat) (hn : n ≤ 3000) (w : World) : Calls Tryz.prog 18 #[.int .i64 (n : Int)] w (AllTo n w) := by
  obtain ⟨i0, hi, hz0, hz1, hz2⟩ := info_parts (show (Tryz.prog.info? 4).map (fun i => (i.zero, i.size, i.bytes)) = some (some (.bool false), 1, 1) by kernel_rfl)
  go_enter Tryz.func18, Tryz.ntmps18
  go_wp2_with (at_make; refine wpList_make_full _ rfl _ _ 42 rfl w.heap.size 4 i0 (.bool false) 1 Tryz.underlying42 hi hz0 hz1 .i64 .i64 _ _ n rfl rfl rfl rfl (by rw [hz2]; omega) (by unfold maxLen; omega) (Nat.le_refl _) ?_; intro w0 hown0 hgrow0)
  have h0 : Bx (AllI w n 0 w0) := ⟨⟨by rw [← setTo_zero]; exact hown0, (Below.refl _ _).grown hgrow0 (Nat.le_refl _) (fun g e => by cases e)⟩⟩
  clear hown0 hgrow0
  go_loopw [4] (fun s4 wr => ∃ j : Nat, j ≤ n ∧ s4 = .int .i64 (j : Int) ∧ Bx (AllI w n j wr)) (fun s4 _ => n - (intOf s4).toNat)
  case atStart => exact ⟨0, by omega, rfl, h0⟩
  case round =>
    clear h0
    obtain ⟨j, hj, rfl, HR⟩ := hrel
    by_cases hlt : j < n
    · have c0 := HR.out.own.cellAt j (by omega)
      rw [setTo_get hlt] at c0
      have f0 := HR.out.own.frozenAt j
      obtain ⟨h1, h2⟩ := HR.out.own.stored j (.bool true)
      rw [setTo_set hlt] at h1
      have HN := Bx.mk (show AllI w n (j + 1) (wr.setCell ⟨w.heap.size, j, none⟩ (.bool true)) from ⟨h1, HR.out.below.setCell (p := ⟨w.heap.size, j, none⟩) (Nat.le_refl _) _⟩)
      clear h1 h2
      go_wp2_with fail
      go_roundw
      case rel => exact ⟨j + 1, by omega, by go_num, HN⟩
      case measure => simp [intOf]; omega
    · obtain rfl : j = n := by omega
      go_wp2_with fail
      go_ret
      refine ⟨_, rfl, ⟨by simp, fun k b hk => ?_⟩, HR.out.below⟩
      have hkn : k < j := by have := (List.getElem?_eq_some_iff.1 hk).1; simpa using this
      have c0 := HR.out.own.cellAt k (by omega)
      rw [setTo_end, List.getElem?_replicate, if_pos hkn] at c0
      rw [List.getElem?_replicate, if_pos hkn] at hk
      obtain rfl := Option.some.inj hk
      exact ⟨w.heap.size, 0, rfl, World.block_lt_of_cell? _ _ c0, by rw [Nat.zero_add]; exact c0⟩
end Go.Proofs.YtpllhnknejceiaaGreatDoor.hw
