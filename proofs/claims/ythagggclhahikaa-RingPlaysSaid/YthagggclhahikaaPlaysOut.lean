/-
  Given for 'Rows.RingPlaysSaid': where the acts are too many or too great, or the size is none. No condition.
-/
import Derived.Test.YthagggclhahikaaPlays
namespace Go.Proofs.Ythagggclhahikaa.plays
open Go.RowKit mem ring plain put peek same api awake two acts order model
set_option linter.unusedVariables false

set_option maxRecDepth 100000 in
set_option maxHeartbeats 2000000 in
theorem plays_great (size : Int) (A : Option Addr) (c : Nat) (acts : List ActD) (w : World) (hm : acts.length ≤ maxLen) (hat : ActsAt w A acts) (hg : greatB acts = true) :
    Calls Try.prog 3 #[.int .i64 size, .slice A acts.length c] w fun e w' => e = .returned (.bool true) ∧ Below w.heap.size w w' := by
  have HG := Lib.hid hg
  have HGR := Lib.hid (great_any A c acts w hm hat)
  clear hg hm hat
  go_enter Try.func3, Try.ntmps3
  go_wp2_with fail
  refine HGR.out.mono ?_
  rintro e w' ⟨rfl, rfl⟩
  rw [HG.out]
  go_wp2_with fail
  go_ret
  exact ⟨rfl, Below.refl _ _⟩

set_option maxRecDepth 100000 in
set_option maxHeartbeats 2000000 in
theorem plays_size (size : Int) (A : Option Addr) (c : Nat) (acts : List ActD) (w : World) (hm : acts.length ≤ maxLen) (hat : ActsAt w A acts) (hg : greatB acts = false) (h : size < 1 ∨ 4096 < size) :
    Calls Try.prog 3 #[.int .i64 size, .slice A acts.length c] w fun e w' => e = .returned (.bool true) ∧ Below w.heap.size w w' := by
  have HG := Lib.hid hg
  have HGR := Lib.hid (great_any A c acts w hm hat)
  have HN := Lib.hid (new_refused size w h)
  have HM := Lib.hid (mnew_no size w h)
  clear hg hm hat h
  go_enter Try.func3, Try.ntmps3
  go_wp2_with fail
  refine HGR.out.mono ?_
  rintro e w' ⟨rfl, rfl⟩
  rw [HG.out]
  go_wp2_with fail
  refine HN.out.mono ?_
  rintro e w' ⟨rfl, rfl⟩
  go_wp2_with fail
  refine HM.out.mono ?_
  rintro e w' ⟨rfl, rfl⟩
  go_wp2_with fail
  go_ret
  exact ⟨rfl, Below.refl _ _⟩

end Go.Proofs.Ythagggclhahikaa.plays
