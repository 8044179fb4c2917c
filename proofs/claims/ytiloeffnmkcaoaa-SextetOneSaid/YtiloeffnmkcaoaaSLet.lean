/-
  Given for the seat's laws: the letter of a number, the number of a letter, the padding taken off. No condition but those of the theorems.
-/
import Derived.Test.YtiloeffnmkcaoaaSMem
namespace Go.Proofs.Ytiloeffnmkcaoaa.sx
open Go.RowKit mem
set_option linter.unusedVariables false

/-- the alphabet as a text of the program -/
abbrev AB : ByteArray := ⟨#[65, 66, 67, 68, 69, 70, 71, 72, 73, 74, 75, 76, 77, 78, 79, 80, 81, 82, 83, 84, 85, 86, 87, 88, 89, 90, 97, 98, 99, 100, 101, 102, 103, 104, 105, 106, 107, 108, 109, 110, 111, 112, 113, 114, 115, 116, 117, 118, 119, 120, 121, 122, 48, 49, 50, 51, 52, 53, 54, 55, 56, 57, 43, 47]⟩
theorem ab_list : AB.data.toList = alpha := rfl
theorem ab_at (n : Nat) (hn : n < 64) : AB[n]'(by show n < 64; exact hn) = lt n := by
  have h : ∀ k : Fin 64, AB[k.1]'(by show k.1 < 64; exact k.2) = lt k.1 := by decide +kernel
  exact h ⟨n, hn⟩
theorem letter_i (W : World) (n : Nat) (hn : n < 64) : (Instr.index 9 (.string AB) (.int .i64 (n : Int))).run Try.prog W = .ok (.int .u8 ((lt n).toNat : Int)) W := by
  rw [run_index_string (P := Try.prog) W 9 _ .i64 (n : Int) Try.underlying9, dif_pos ⟨by omega, by show (n : Int) < 64; omega⟩]
  have := ab_at n hn
  simp only [Int.toNat_natCast]
  rw [this]
theorem letter_u (W : World) (n : Nat) (hn : n < 64) : (Instr.index 9 (.string AB) (.int .u64 (n : Int))).run Try.prog W = .ok (.int .u8 ((lt n).toNat : Int)) W := by
  rw [run_index_string (P := Try.prog) W 9 _ .u64 (n : Int) Try.underlying9, dif_pos ⟨by omega, by show (n : Int) < 64; omega⟩]
  have := ab_at n hn
  simp only [Int.toNat_natCast]
  rw [this]

theorem letter_any (n : Nat) (hn : n < 64) (w : World) : Calls Try.prog 21 #[.int .i64 (n : Int)] w fun e w' => e = .returned (.int .u8 ((lt n).toNat : Int)) ∧ w' = w := by
  have h := fun W => letter_i W n hn
  go_enter Try.func21, Try.ntmps21
  go_wp2
  go_ret
  exact ⟨rfl, rfl⟩

theorem index_any (c : UInt8) (w : World) : Calls Try.prog 23 #[.string AB, .int .u8 (c.toNat : Int)] w fun e w' => e = .returned (.int .i64 (vl c)) ∧ w' = w := by
  have h := Try.strings_IndexByte AB (c.toNat : Int) w
  have e : ((c.toNat : Int).toNat).toUInt8 = c := by simp
  rw [e] at h
  exact h

theorem vl_step {c : UInt8} {n : Nat} (hn : n < 64) (h : ∀ k : Nat, k < n → vl c ≠ (k : Int)) : lt n = c ↔ vl c = (n : Int) := by
  constructor
  · rintro rfl
    exact vl_lt hn
  · intro e
    obtain ⟨m, hm, e1, e2⟩ := vl_some (c := c) (by omega)
    have : m = n := by omega
    rw [← this]; exact e2

set_option maxHeartbeats 400000 in
theorem value_any (c : UInt8) (w : World) : Calls Try.prog 24 #[.int .u8 (c.toNat : Int)] w fun e w' => e = .returned (.int .i64 (vl c)) ∧ w' = w := by
  have hc0 := c.toNat_lt
  go_enter Try.func24, Try.ntmps24
  go_wp2
  go_loop [3] (fun s3 => ∃ k : Nat, k ≤ 64 ∧ s3 = .int .i64 (k : Int) ∧ Hid (∀ j : Nat, j < k → vl c ≠ (j : Int))) (fun s3 => 64 - (intOf s3).toNat)
  case atStart => exact ⟨0, by omega, rfl, Lib.hid fun j hj => absurd hj (by omega)⟩
  case round =>
    obtain ⟨k, hk, rfl, HV⟩ := hrel
    by_cases hlt : k < 64
    · have hl := letter_any k hlt
      have HL := Lib.hid hl
      clear hl
      by_cases he : lt k = c
      · have HE := Lib.hid ((vl_step hlt HV.out).1 he)
        subst he
        go_wp2_with ((with_reducible refine (HL.out _).mono ?_); rintro e w' ⟨rfl, rfl⟩)
        go_ret
        exact ⟨by rw [HE.out]; rfl, rfl⟩
      · have HE := Lib.hid (fun e => he ((vl_step hlt HV.out).2 e))
        have hne : (((lt k).toNat : Int) == (c.toNat : Int)) = false := beq_eq_false_iff_ne.2 fun e => he (UInt8.toNat_inj.1 (by omega))
        clear he
        go_wp2_with ((with_reducible refine (HL.out _).mono ?_); rintro e w' ⟨rfl, rfl⟩)
        go_round
        case rel => exact ⟨k + 1, by omega, by go_num, Lib.hid fun j hj => by
          rcases Nat.lt_or_ge j k with h | h
          · exact HV.out j h
          · have : j = k := by omega
            subst this
            exact HE.out⟩
        case measure => simp [intOf]; omega
    · have HF := Lib.hid (show vl c = -1 by
        rcases vl_range c with h | ⟨h0, h1, _⟩
        · exact h
        · exact absurd (show vl c = ((vl c).toNat : Int) by omega) (HV.out _ (by omega)))
      go_wp2
      go_ret
      exact ⟨by rw [HF.out]; rfl, rfl⟩

theorem trim_any (l : Str) (hl : l.length ≤ 1000000) (w : World) : Calls Try.prog 29 #[.string (S l), .string ⟨#[61]⟩] w fun e w' => e = .returned (.string (S (trim l))) ∧ w' = w := by
  have h := Try.strings_TrimSuffix (S l) ⟨#[61]⟩ w (by rw [S_size]; omega)
  rw [S_list] at h
  exact h

set_option maxHeartbeats 400000 in
theorem strip_any (l : Str) (hl : l.length ≤ 1000000) (w : World) : Calls Try.prog 22 #[.string (S l)] w fun e w' => e = .returned (.string (S (strip l))) ∧ w' = w := by
  have h1 : (trim l).length ≤ l.length := by
    rcases trim_cases l with h | h
    · rw [h]; exact Nat.le_refl _
    · have := congrArg List.length h; simp at this; omega
  have HA := Lib.hid (trim_any l hl w)
  have HB := Lib.hid (trim_any (trim l) (by omega) w)
  clear h1
  go_enter Try.func22, Try.ntmps22
  go_wp2
  refine wp_loop_rounds 3 ?_
  rw [rounds_succ]
  go_wp2_with fail
  refine HA.out.mono ?_
  rintro e w' ⟨rfl, rfl⟩
  go_wp2_with fail
  rw [rounds_succ]
  go_wp2_with fail
  refine HB.out.mono ?_
  rintro e w' ⟨rfl, rfl⟩
  go_wp2_with fail
  rw [rounds_succ]
  go_wp2_with fail
  go_ret
  exact ⟨rfl, rfl⟩
end Go.Proofs.Ytiloeffnmkcaoaa.sx
