/-
  Given for the seat's laws: the document's own answers: the contract of its May. No condition but those of the theorem.
-/
import Derived.Test.YtefpplkoohnfbaaDoorHRName
namespace Go.Proofs.YtefpplkoohnfbaaDoor.hw
open Go.RowKit mem hostp
set_option linter.unusedVariables false

set_option maxRecDepth 100000 in
set_option maxHeartbeats 4000000 in
theorem rmay_any (k : Int) (t : ByteArray) (h0 : 0 ≤ k) (w : World) : Calls Tryd.prog 12 #[hv k t] w (Gives (.bool (may (hh k t))) w) := by
  have hb : Below w.heap.size w (w.alloc (.cells #[.int .u8 k, .string t] 23)) := (Below.refl _ w).alloc (Nat.le_refl _) _
  have HB := Lib.hid hb
  clear hb
  unfold hv
  by_cases h1 : k = 1
  · subst h1
    have HM := Lib.hid (may1 t)
    by_cases h4 : t.size = 4
    · rw [decide_eq_true h4] at HM
      have q : ((t.size : Int) == 4) = true := beq_iff_eq.2 (by omega)
      clear h4
      go_enter Tryd.func12, Tryd.ntmps12
      go_wp2
      go_ret
      exact ⟨by rw [HM.out]; rfl, HB.out⟩
    · rw [decide_eq_false h4] at HM
      have q : ((t.size : Int) == 4) = false := beq_eq_false_iff_ne.2 (by omega)
      clear h4
      go_enter Tryd.func12, Tryd.ntmps12
      go_wp2
      go_ret
      exact ⟨by rw [HM.out]; rfl, HB.out⟩
  · by_cases h2 : k = 2
    · subst h2
      have HM := Lib.hid (may2 t)
      by_cases h4 : t.size = 16
      · rw [decide_eq_true h4] at HM
        have q : ((t.size : Int) == 16) = true := beq_iff_eq.2 (by omega)
        clear h4
        go_enter Tryd.func12, Tryd.ntmps12
        go_wp2
        go_ret
        exact ⟨by rw [HM.out]; rfl, HB.out⟩
      · rw [decide_eq_false h4] at HM
        have q : ((t.size : Int) == 16) = false := beq_eq_false_iff_ne.2 (by omega)
        clear h4
        go_enter Tryd.func12, Tryd.ntmps12
        go_wp2
        go_ret
        exact ⟨by rw [HM.out]; rfl, HB.out⟩
    · by_cases h3 : k = 3
      · subst h3
        have HM := Lib.hid (may3 t)
        have HN := Lib.hid (rname_any t (w.alloc (.cells #[.int .u8 3, .string t] 23)))
        generalize nameB t.data.toList = b at HM HN
        go_enter Tryd.func12, Tryd.ntmps12
        go_wp2_with fail
        refine HN.out.mono ?_
        rintro e w' ⟨rfl, rfl⟩
        cases b
        · go_wp2
          go_ret
          exact ⟨by rw [HM.out]; rfl, HB.out⟩
        · go_wp2
          go_ret
          exact ⟨by rw [HM.out]; rfl, HB.out⟩
      · have HM := Lib.hid (may0 t h0 h1 h2 h3)
        have q1 : (k == 1) = false := beq_eq_false_iff_ne.2 h1
        have q2 : (k == 2) = false := beq_eq_false_iff_ne.2 h2
        have q3 : (k == 3) = false := beq_eq_false_iff_ne.2 h3
        go_enter Tryd.func12, Tryd.ntmps12
        go_wp2
        go_ret
        exact ⟨by rw [HM.out]; rfl, HB.out⟩

end Go.Proofs.YtefpplkoohnfbaaDoor.hw
