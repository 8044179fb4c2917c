/-
  Given for 'Rows.RackOwnSaid': the law's walk, whole. No condition.
-/
import Derived.Test.YtcecdcdnjbndiaaOwnTwo
import Derived.Test.YtcecdcdnjbndiaaOwnOne
namespace Go.Proofs.Ytcecdcdnjbndiaa.rack
open Go.RowKit mem find
set_option linter.unusedVariables false

set_option maxRecDepth 100000 in
set_option maxHeartbeats 1000000 in
theorem own_far (st : Int) (hs1 : 1 ≤ st) (hs2 : st ≤ 1000) (two : Bool) (htwo : (two = true ∧ st = 2) ∨ (two = false ∧ st = 1)) (size : Int) (A : Option Addr) (c : Nat) (acts : List ActD) (w : World) (hm : acts.length ≤ maxLen) (hat : ActsAt w A acts) (hnear : nearB acts = false) :
    Calls Try.prog 5 #[.int .i64 size, .bool two, .slice A acts.length c] w fun e w' => e = .returned (.bool true) ∧ Below w.heap.size w w' := by
  have HA := Lib.hid (awake_any w)
  obtain ⟨N, hN, h1, h64⟩ := size_of size
  have HN := Lib.hid hN
  have HAT := Lib.hid hat
  have HM := Lib.hid hm
  have HNR := Lib.hid hnear
  clear hN hat hm hnear
  rcases htwo with ⟨rfl, rfl⟩ | ⟨rfl, rfl⟩
  all_goals
    go_enter Try.func5, Try.ntmps5
    go_wp2_with fail
    refine HA.out.mono ?_
    rintro e w1 ⟨rfl, hb⟩
    have HB := Lib.hid hb
    clear hb HA
    go_wp2_with fail
    rw [HN.out]
    refine (new_ok N 1 _ w1 (by omega) (by omega) (by omega) (by omega) hs1 hs2).mono ?_
    rintro e w2 ⟨rfl, hn⟩
    have hb2 := HB.out.trans (hn.below.mono HB.out.size)
    have HNE := Lib.hid (near_any A c acts w2 HM.out (HAT.out.below hb2))
    have HB2 := Lib.hid hb2
    clear hn hb2 HB
    generalize w1.heap.size = r
    go_wp2_with (go_at_call 24; refine HNE.out.mono ?_; rintro e w' ⟨rfl, rfl⟩; rw [HNR.out])
    go_ret
    exact ⟨rfl, HB2.out⟩

theorem own_walk (size : Int) (two : Bool) (A : Option Addr) (c : Nat) (acts : List ActD) (w : World) (hm : acts.length ≤ maxLen) (hat : ActsAt w A acts) (hok : ActsOk acts) :
    Calls Try.prog 5 #[.int .i64 size, .bool two, .slice A acts.length c] w fun e w' => e = .returned (.bool true) ∧ Below w.heap.size w w' := by
  rcases hn : nearB acts with _ | _
  · cases two with
    | true => exact own_far 2 (by omega) (by omega) true (.inl ⟨rfl, rfl⟩) size A c acts w hm hat hn
    | false => exact own_far 1 (by omega) (by omega) false (.inr ⟨rfl, rfl⟩) size A c acts w hm hat hn
  · cases two with
    | true => exact own_two size A c acts w hm hat hok hn
    | false => exact own_one size A c acts w hm hat hok hn

end Go.Proofs.Ytcecdcdnjbndiaa.rack
