/-
  Given for the seat's laws: the contracts of parts, May, held, Len, Add, and of the function that makes outcomes' function. No condition but those of the theorems.
-/
import Derived.Test.YtpidjekabnnmcaaWMem
namespace Go.Proofs.Ytpidjekabnnmcaa.wn
open Go.RowKit mem
set_option linter.unusedVariables false

/-- a call that gives v, and turns nothing but draws -/
def Pure (v : Value) (w : World) (e : Ending) (w' : World) : Prop := e = .returned v ∧ Still w w'
theorem parts_any (x : Nat) (hx : x < 65536) (w : World) : Calls Try.prog 76 #[.int .u16 (x : Int)] w (Pure (.tuple #[.int .i64 ((x / 256 : Nat) : Int), .int .u16 ((x % 256 : Nat) : Int)]) w) := by
  go_enter Try.func76, Try.ntmps76
  go_wp2
  go_ret2
  exact ⟨by simp, Still.refl _⟩
theorem wrap_small {n : Nat} (h : n < 65536) : IntKind.u16.wrap (n : Int) = (n : Int) := by rw [IntKind.wrap_u16]; omega
theorem may_any (x : Nat) (hx : x < 65536) (w : World) : Calls Try.prog 75 #[.int .u16 (x : Int)] w (Pure (.bool (may x)) w) := by
  have HP := Bx.mk (fun w => parts_any x hx w)
  obtain ⟨k, hk⟩ : ∃ k, x / 256 = k := ⟨_, rfl⟩
  obtain ⟨b, hb⟩ : ∃ b, x % 256 = b := ⟨_, rfl⟩
  have hm0 : may x = true ↔ k ≤ 8 ∧ b < 2 ^ k := by rw [← hk, ← hb]; exact may_iff
  unfold Pure at HP
  rw [hk, hb] at HP
  have hb2 : b < 256 := by omega
  obtain ⟨r, hr⟩ : ∃ r, may x = r := ⟨_, rfl⟩
  rw [hr] at hm0 ⊢
  clear hr
  by_cases h8 : k ≤ 8
  · have h8i : (k : Int) ≤ 8 := by omega
    have hwr : IntKind.u16.wrap ((2 : Int) ^ k) = ((2 ^ k : Nat) : Int) := by
      rw [← wrap_small (n := 2 ^ k) (by have := pow_le k h8; omega)]
      simp
    have hfin : r = decide ((b : Int) < IntKind.u16.wrap ((2 : Int) ^ k)) := by
      rw [hwr, Bool.eq_iff_iff, hm0, decide_eq_true_iff]
      omega
    have HF := Bx.mk hfin
    clear hm0 hwr hfin
    go_enter Try.func75, Try.ntmps75
    go_wp2_with fail
    refine (HP.out _).mono ?_
    rintro e w1 ⟨rfl, hs⟩
    go_wp2_with fail
    go_ret
    exact ⟨by rw [HF.out]; rfl, hs⟩
  · have h8i : ¬ (k : Int) ≤ 8 := by omega
    have hfin : r = false := by
      cases r with
      | false => rfl
      | true => exact absurd (hm0.1 rfl).1 h8
    have HF := Bx.mk hfin
    clear hm0 hfin
    go_enter Try.func75, Try.ntmps75
    go_wp2_with fail
    refine (HP.out _).mono ?_
    rintro e w1 ⟨rfl, hs⟩
    go_wp2_with fail
    go_ret
    exact ⟨by rw [HF.out]; rfl, hs⟩
theorem held_any (x : Nat) (hx : x < 65536) (w : World) : Calls Try.prog 69 #[.int .u16 (x : Int)] w (Pure (.tuple #[.int .i64 (hk x : Int), .int .u16 (hb x : Int)]) w) := by
  have HM := Bx.mk (fun w => may_any x hx w)
  obtain ⟨r, hr⟩ : ∃ r, may x = r := ⟨_, rfl⟩
  unfold Pure at HM
  rw [hr] at HM
  cases r with
  | true =>
    have HP := Bx.mk (fun w => parts_any x hx w)
    rw [hk_yes hr, hb_yes hr]
    unfold Pure at HP
    clear hr
    go_enter Try.func69, Try.ntmps69
    go_wp2_with fail
    refine (HM.out _).mono ?_
    rintro e w1 ⟨rfl, hs1⟩
    go_wp2_with fail
    refine (HP.out _).mono ?_
    rintro e w2 ⟨rfl, hs2⟩
    go_wp2_with fail
    go_ret2
    exact ⟨rfl, hs1.trans hs2⟩
  | false =>
    have HP := Bx.mk (fun w => parts_any 0 (by omega) w)
    rw [hk_no hr, hb_no hr]
    unfold Pure at HP
    clear hr
    go_enter Try.func69, Try.ntmps69
    go_wp2_with fail
    refine (HM.out _).mono ?_
    rintro e w1 ⟨rfl, hs1⟩
    go_wp2_with fail
    refine (HP.out _).mono ?_
    rintro e w2 ⟨rfl, hs2⟩
    go_wp2_with fail
    go_ret2
    exact ⟨rfl, hs1.trans hs2⟩
theorem ret_u16 {a b : Int} (h : a = b) : Ending.returned (.int .u16 a) = .returned (.int .u16 b) := by rw [h]
theorem add_any (x : Nat) (hx : x < 65536) (g : Bool) (w : World) : Calls Try.prog 59 #[.int .u16 (x : Int), .bool g] w (Pure (.int .u16 (addw x g : Int)) w) := by
  have HH := Bx.mk (fun w => held_any x hx w)
  have hk8 := hk_le x
  have hb2 := hb_256 x
  unfold addw
  unfold Pure at HH
  generalize hk x = k at *
  generalize hb x = b at *
  have h1 : IntKind.u16.wrap ((b : Int) * 2) = ((b * 2 : Nat) : Int) := by rw [IntKind.wrap_u16]; omega
  cases g with
  | true =>
    obtain ⟨z, hz⟩ : ∃ z, 256 * min (k + 1) 8 + (2 * b + bad1 true) % 256 = z := ⟨_, rfl⟩
    rw [hz]
    have HZ := Bx.mk (show z = 256 * min (k + 1) 8 + (2 * b + 0) % 256 from hz.symm)
    clear hz
    go_enter Try.func59, Try.ntmps59
    go_wp2_with fail
    refine (HH.out _).mono ?_
    rintro e w1 ⟨rfl, hs1⟩
    go_wp2_with fail
    all_goals
      go_ret
      refine ⟨ret_u16 ?_, hs1⟩
      have := HZ.out
      omega
  | false =>
    have h2 : IntKind.u16.wrap ((b : Int) * 2 + 1) = ((b * 2 + 1 : Nat) : Int) := by rw [IntKind.wrap_u16]; omega
    obtain ⟨z, hz⟩ : ∃ z, 256 * min (k + 1) 8 + (2 * b + bad1 false) % 256 = z := ⟨_, rfl⟩
    rw [hz]
    have HZ := Bx.mk (show z = 256 * min (k + 1) 8 + (2 * b + 1) % 256 from hz.symm)
    clear hz
    go_enter Try.func59, Try.ntmps59
    go_wp2_with fail
    refine (HH.out _).mono ?_
    rintro e w1 ⟨rfl, hs1⟩
    go_wp2_with fail
    all_goals
      go_ret
      refine ⟨ret_u16 ?_, hs1⟩
      have := HZ.out
      omega
theorem outs_any (x : Nat) (hx : x < 65536) (w : World) : Calls Try.prog 72 #[.int .u16 (x : Int)] w fun e w' => ∃ w1, Still w w1 ∧ e = .returned (.func (.func 77) #[] #[.pointer (some ⟨w1.heap.size, 0, none⟩), .pointer (some ⟨w1.heap.size + 1, 0, none⟩)]) ∧
    w' = (w1.alloc (.cells #[.int .i64 (hk x : Int)] 3)).alloc (.cells #[.int .u16 (hb x : Int)] 41) := by
  have HH := Bx.mk (fun w => held_any x hx w)
  unfold Pure at HH
  generalize hk x = k at *
  generalize hb x = b at *
  go_enter Try.func72, Try.ntmps72
  go_wp2_with fail
  refine (HH.out _).mono ?_
  rintro e w1 ⟨rfl, hs1⟩
  go_wp2_with fail
  go_ret
  exact ⟨w1, hs1, rfl, rfl⟩
end Go.Proofs.Ytpidjekabnnmcaa.wn
