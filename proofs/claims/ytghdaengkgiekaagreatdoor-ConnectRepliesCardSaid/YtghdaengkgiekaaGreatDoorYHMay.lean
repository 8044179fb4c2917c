/-
  Given for the seat's laws: the contracts of May and MayTarget. No condition but those of the theorems.
-/
import Derived.Test.YtghdaengkgiekaaGreatDoorYHRange
namespace Go.Proofs.YtghdaengkgiekaaGreatDoor.hw
open Go.RowKit mem hostp
set_option linter.unusedVariables false

/-- a host as a value, and as the plain functions have it -/
def hv (k : Int) (t : ByteArray) : Value := .agg #[.int .u8 k, .string t]
def hh (k : Int) (t : ByteArray) : H := ⟨k.toNat, t.data.toList⟩
/-- a target -/
def tv (k : Int) (t : ByteArray) (p : Int) : Value := .agg #[.int .u8 k, .string t, .int .i64 p]
def tt (k : Int) (t : ByteArray) (p : Int) : T := ⟨hh k t, p⟩

theorem beq_nat (n m : Nat) : (((n : Int) == (m : Int)) : Bool) = decide (n = m) := by rw [Bool.eq_iff_iff, beq_iff_eq, decide_eq_true_eq]; omega
theorem may1 (t : ByteArray) : may (hh 1 t) = decide (t.size = 4) := by
  unfold may hh
  simp
theorem may2 (t : ByteArray) : may (hh 2 t) = decide (t.size = 16) := by
  unfold may hh
  simp
theorem may3 (t : ByteArray) : may (hh 3 t) = nameB t.data.toList := by
  unfold may hh
  simp
theorem may0 {k : Int} (t : ByteArray) (h0 : 0 ≤ k) (h1 : k ≠ 1) (h2 : k ≠ 2) (h3 : k ≠ 3) : may (hh k t) = false := by
  unfold may hh
  have e1 : k.toNat ≠ 1 := by omega
  have e2 : k.toNat ≠ 2 := by omega
  have e3 : k.toNat ≠ 3 := by omega
  simp [e1, e2, e3]

set_option maxHeartbeats 1000000 in
theorem may_any (k : Int) (t : ByteArray) (h0 : 0 ≤ k) (w : World) : Calls Tryz.prog 77 #[hv k t] w (Gives (.bool (may (hh k t))) w) := by
  have hb : Below w.heap.size w (w.alloc (.cells #[.int .u8 k, .string t] 23)) := (Below.refl _ w).alloc (Nat.le_refl _) _
  have HB := Lib.hid hb
  clear hb
  unfold hv
  by_cases h1 : k = 1
  · subst h1
    have HM := Lib.hid (may1 t)
    go_enter Tryz.func77, Tryz.ntmps77
    go_wp2
    go_ret
    exact ⟨by rw [HM.out, ← beq_nat]; rfl, HB.out⟩
  · by_cases h2 : k = 2
    · subst h2
      have HM := Lib.hid (may2 t)
      go_enter Tryz.func77, Tryz.ntmps77
      go_wp2
      go_ret
      exact ⟨by rw [HM.out, ← beq_nat]; rfl, HB.out⟩
    · by_cases h3 : k = 3
      · subst h3
        have HM := Lib.hid (may3 t)
        have HN := Lib.hid (isName_any t (w.alloc (.cells #[.int .u8 3, .string t] 23)))
        go_enter Tryz.func77, Tryz.ntmps77
        go_wp2_with fail
        refine HN.out.mono ?_
        rintro e w' ⟨rfl, hb2⟩
        have HB2 := Lib.hid (HB.out.trans (hb2.mono (by simp)))
        clear hb2
        go_wp2
        go_ret
        exact ⟨by rw [HM.out]; rfl, HB2.out⟩
      · have HM := Lib.hid (may0 t h0 h1 h2 h3)
        go_enter Tryz.func77, Tryz.ntmps77
        go_wp2
        go_ret
        exact ⟨by rw [HM.out]; rfl, HB.out⟩

theorem mayT_eq (k : Int) (t : ByteArray) (p : Int) : mayT (tt k t p) = (may (hh k t) && decide (1 ≤ p) && decide (p ≤ 65535)) := rfl

set_option maxHeartbeats 1000000 in
theorem mayTarget_any (k : Int) (t : ByteArray) (p : Int) (h0 : 0 ≤ k) (w : World) : Calls Tryz.prog 53 #[tv k t p] w (Gives (.bool (mayT (tt k t p))) w) := by
  have hb : Below w.heap.size w (w.alloc (.cells #[.int .u8 k, .string t, .int .i64 p] 25)) := (Below.refl _ w).alloc (Nat.le_refl _) _
  have hl := Lies.new w 25 #[.int .u8 k, .string t, .int .i64 p]
  have HM := Lib.hid (may_any k t h0 (w.alloc (.cells #[.int .u8 k, .string t, .int .i64 p] 25)))
  have HE := Lib.hid (mayT_eq k t p)
  have HB := Lib.hid hb
  have HL := Lib.hid hl
  clear hb hl
  unfold hv at HM
  unfold tv
  generalize may (hh k t) = b at HM HE
  go_enter Tryz.func53, Tryz.ntmps53
  go_wp2_with fail
  refine HM.out.mono ?_
  rintro e w' ⟨rfl, hb2⟩
  have hl2 := HL.out.below hb2 (by simp)
  have c2 := hl2.cell 2
  simp at c2
  have HB2 := Lib.hid (HB.out.trans (hb2.mono (by simp)))
  clear hb2 hl2
  cases b
  · go_wp2
    go_ret
    exact ⟨by rw [HE.out]; rfl, HB2.out⟩
  · by_cases q1 : 1 ≤ p
    · by_cases q2 : p ≤ 65535
      · go_wp2
        go_ret
        exact ⟨by rw [HE.out, decide_eq_true q1, decide_eq_true q2]; rfl, HB2.out⟩
      · go_wp2
        go_ret
        exact ⟨by rw [HE.out, decide_eq_true q1, decide_eq_false (show ¬ p ≤ 65535 by omega)]; rfl, HB2.out⟩
    · go_wp2
      go_ret
      exact ⟨by rw [HE.out, decide_eq_false (show ¬ 1 ≤ p by omega)]; rfl, HB2.out⟩

end Go.Proofs.YtghdaengkgiekaaGreatDoor.hw
