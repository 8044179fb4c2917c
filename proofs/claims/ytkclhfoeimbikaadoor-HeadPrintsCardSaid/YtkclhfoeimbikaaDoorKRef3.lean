/-
  Given for the seat's laws: the document's part: how a line goes on. No condition but those of the theorem.
-/
import Derived.Test.YtkclhfoeimbikaaDoorKRef1
import Derived.Test.YtkclhfoeimbikaaDoorKTake
namespace Go.Proofs.YtkclhfoeimbikaaDoor.hd
open Go.RowKit mem
set_option linter.unusedVariables false

theorem vis_three (c : UInt8) : (vis c = true ∧ (32 : Int) ≤ (c.toNat : Int) ∧ (c.toNat : Int) ≤ 126) ∨ (vis c = false ∧ ¬ (32 : Int) ≤ (c.toNat : Int)) ∨ (vis c = false ∧ (32 : Int) ≤ (c.toNat : Int) ∧ ¬ (c.toNat : Int) ≤ 126) := by
  by_cases h1 : 32 ≤ c.toNat
  · by_cases h2 : c.toNat ≤ 126
    · exact .inl ⟨by simp [vis, h1, h2], by omega, by omega⟩
    · exact .inr (.inr ⟨by simp [vis, h2], by omega, by omega⟩)
  · exact .inr (.inl ⟨by simp [vis, h1], by omega⟩)
set_option maxHeartbeats 8000000 in
theorem Rpart_any (l : Str) (first : Bool) (hl : l.length ≤ 10000) (w : World) : Calls Tryd.prog 26 #[.string (S l), .bool first] w fun e w' => e = .returned (.tuple #[.bool (partP first false 0 l).1, .int .i64 ((partP first false 0 l).2 : Int)]) ∧ w' = w := by
  obtain ⟨R, hR⟩ : ∃ R, partP first false 0 l = R := ⟨_, rfl⟩
  rw [hR]
  obtain ⟨s, hs⟩ : ∃ s, s = S l := ⟨_, rfl⟩
  obtain ⟨n, hn⟩ : ∃ n, l.length = n := ⟨_, rfl⟩
  have hsz : s.size = n := by rw [hs, S_size, hn]
  rw [← hs]
  have HS := Bx.mk hs
  have HN := Bx.mk hn
  have H0 : Bx (R = partP first false 0 (l.drop 0)) := ⟨by rw [← hR]; rfl⟩
  rw [hn] at hl
  clear hs hn hR
  go_enter Tryd.func26, Tryd.ntmps26
  go_wp2_with fail
  go_loopw [6, 7] (fun s6 s7 wr => ∃ (colon : Bool) (i : Nat), i ≤ n ∧ s6 = .bool colon ∧ s7 = .int .i64 (i : Int) ∧ wr = w ∧ Bx (R = partP first colon i (l.drop i))) (fun s6 s7 _ => n - (intOf s7).toNat)
  case atStart => exact ⟨false, 0, by omega, rfl, rfl, rfl, H0⟩
  case round =>
    clear H0
    obtain ⟨colon, i, hi, rfl, rfl, hw, H⟩ := hrel
    replace hw := hw.symm
    subst hw
    by_cases hlt : i < n
    · obtain ⟨x, hx⟩ : ∃ x, l[i]? = some x := ⟨_, List.getElem?_eq_getElem (by rw [HN.out]; exact hlt)⟩
      have hp : R = partP first colon i (x :: l.drop (i + 1)) := by rw [← drop_cons hx]; exact H.out
      have hix := str_at HS.out i x hx
      have i0 : (0 : Int) ≤ (i : Int) := by omega
      have i1 : (i : Int) < (n : Int) := by omega
      have hw1 : IntKind.i64.wrap ((i : Int) + 1) = ((i + 1 : Nat) : Int) := by rw [IntWalk.i64_in _ (by omega)]; omega
      obtain ⟨rest, hrest⟩ : ∃ r, l.drop (i + 1) = r := ⟨_, rfl⟩
      rw [hrest] at hp
      have HRr := Bx.mk hrest
      clear hrest hx H
      by_cases h13 : x = 13
      · subst h13
        rcases Nat.eq_zero_or_pos i with hz | hz
        · subst hz
          have hix0 : ∀ W, (Instr.index 9 (.string s) (.int .i64 0)).run Tryd.prog W = .ok (.int .u8 ((13 : UInt8).toNat : Int)) W := hix
          cases first
          · obtain rfl : R = (true, 0) := by rw [hp]; simp [partP]
            clear hp
            go_wp2_with fail
            exact bodyPost_ret (v := .tuple #[.bool true, .int .i64 0]) (by simp [results, Tryd.results26, go_sem]) rfl ⟨rfl, rfl⟩
          · obtain rfl : R = (false, 6) := by rw [hp]; simp [partP]
            clear hp
            go_wp2_with fail
            exact bodyPost_ret (v := .tuple #[.bool false, .int .i64 6]) (by simp [results, Tryd.results26, go_sem]) rfl ⟨rfl, rfl⟩
        · have j0 : ((i : Int) == 0) = false := by rw [beq_eq_false_iff_ne]; omega
          have j1 : (0 : Int) < (i : Int) := by omega
          cases first
          · cases colon
            · obtain rfl : R = (false, 6) := by rw [hp]; simp [partP, hz]
              clear hp hz
              go_wp2_with fail
              exact bodyPost_ret (v := .tuple #[.bool false, .int .i64 6]) (by simp [results, Tryd.results26, go_sem]) rfl ⟨rfl, rfl⟩
            · obtain rfl : R = (true, 0) := by rw [hp]; simp [partP]
              clear hp hz
              go_wp2_with fail
              exact bodyPost_ret (v := .tuple #[.bool true, .int .i64 0]) (by simp [results, Tryd.results26, go_sem]) rfl ⟨rfl, rfl⟩
          · obtain rfl : R = (true, 0) := by rw [hp]; simp [partP]; omega
            clear hp hz
            go_wp2_with fail
            exact bodyPost_ret (v := .tuple #[.bool true, .int .i64 0]) (by simp [results, Tryd.results26, go_sem]) rfl ⟨rfl, rfl⟩
      · have e13 : ((x.toNat : Int) == 13) = false := (ne_int (y := 13) h13).1
        cases first
        · cases colon
          · by_cases h58 : x = 58
            · subst h58
              rcases Nat.eq_zero_or_pos i with hz | hz
              · subst hz
                have hix0 : ∀ W, (Instr.index 9 (.string s) (.int .i64 0)).run Tryd.prog W = .ok (.int .u8 ((58 : UInt8).toNat : Int)) W := hix
                obtain rfl : R = (false, 6) := by rw [hp]; simp [partP, show sgn 58 = false by decide]
                have hSg := RSign_any 58 w
                rw [show sgn 58 = false by decide] at hSg
                have HSg := Bx.mk hSg
                clear hp hSg e13 h13
                go_wp2_with fail
                refine HSg.out.mono ?_
                rintro e2 w2 ⟨rfl, hw2⟩
                replace hw2 := hw2.symm
                subst hw2
                go_wp2_with fail
                exact bodyPost_ret (v := .tuple #[.bool false, .int .i64 6]) (by simp [results, Tryd.results26, go_sem]) rfl ⟨rfl, rfl⟩
              · have j1 : (0 : Int) < (i : Int) := by omega
                have HN2 : Bx (R = partP false true (i + 1) (l.drop (i + 1))) := ⟨by rw [hp, HRr.out]; simp [partP, hz]⟩
                clear hp e13 h13 hz HRr
                go_wp2_with fail
                go_roundw
                case rel => exact ⟨true, i + 1, by omega, rfl, by go_num, trivial, HN2⟩
                case measure => simp [intOf]; omega
            · have e58 : ((x.toNat : Int) == 58) = false := (ne_int (y := 58) h58).1
              have hSg := RSign_any x w
              cases hsx : sgn x with
              | true =>
                rw [hsx] at hSg
                have HSg := Bx.mk hSg
                have HN2 : Bx (R = partP false false (i + 1) (l.drop (i + 1))) := ⟨by rw [hp, HRr.out]; simp [partP, h13, h58, hsx]⟩
                have hv3 := vis_three x
                generalize (x.toNat : Int) = z at *
                clear hp h13 h58 hsx hSg HRr
                rcases hv3 with ⟨_, v1, v2⟩ | ⟨_, v1⟩ | ⟨_, v1, v2⟩
                all_goals
                  go_wp2_with fail
                  refine HSg.out.mono ?_
                  rintro e2 w2 ⟨rfl, hw2⟩
                  replace hw2 := hw2.symm
                  subst hw2
                  go_wp2_with fail
                  go_roundw
                  case rel => exact ⟨false, i + 1, by omega, rfl, by go_num, trivial, HN2⟩
                  case measure => simp [intOf]; omega
              | false =>
                rw [hsx] at hSg
                have HSg := Bx.mk hSg
                obtain rfl : R = (false, 6) := by rw [hp]; simp [partP, h13, h58, hsx]
                have hv3 := vis_three x
                generalize (x.toNat : Int) = z at *
                clear hp h13 h58 hsx hSg HRr
                rcases hv3 with ⟨_, v1, v2⟩ | ⟨_, v1⟩ | ⟨_, v1, v2⟩
                all_goals
                  go_wp2_with fail
                  refine HSg.out.mono ?_
                  rintro e2 w2 ⟨rfl, hw2⟩
                  replace hw2 := hw2.symm
                  subst hw2
                  go_wp2_with fail
                  exact bodyPost_ret (v := .tuple #[.bool false, .int .i64 6]) (by simp [results, Tryd.results26, go_sem]) rfl ⟨rfl, rfl⟩
          · rcases vis_three x with ⟨v0, v1, v2⟩ | ⟨v0, v1⟩ | ⟨v0, v1, v2⟩
            · have HN2 : Bx (R = partP false true (i + 1) (l.drop (i + 1))) := ⟨by rw [hp, HRr.out]; simp [partP, h13, vtab, v0]⟩
              generalize (x.toNat : Int) = z at *
              clear hp h13 v0 HRr
              go_wp2_with fail
              go_roundw
              case rel => exact ⟨true, i + 1, by omega, rfl, by go_num, trivial, HN2⟩
              case measure => simp [intOf]; omega
            all_goals
              by_cases h9 : x = 9
              · subst h9
                have HN2 : Bx (R = partP false true (i + 1) (l.drop (i + 1))) := ⟨by rw [hp, HRr.out]; simp [partP, vtab]⟩
                clear hp h13 v0 HRr e13
                first
                  | (exact absurd v1 (by decide))
                  | (clear v1
                     go_wp2_with fail
                     go_roundw
                     case rel => exact ⟨true, i + 1, by omega, rfl, by go_num, trivial, HN2⟩
                     case measure => simp [intOf]; omega)
              · have e9 : ((x.toNat : Int) != 9) = true := (ne_int (y := 9) h9).2
                obtain rfl : R = (false, 6) := by rw [hp]; simp [partP, h13, vtab, v0, h9]
                generalize (x.toNat : Int) = z at *
                clear hp h13 v0 HRr h9
                go_wp2_with fail
                exact bodyPost_ret (v := .tuple #[.bool false, .int .i64 6]) (by simp [results, Tryd.results26, go_sem]) rfl ⟨rfl, rfl⟩
        · rcases vis_three x with ⟨v0, v1, v2⟩ | ⟨v0, v1⟩ | ⟨v0, v1, v2⟩
          · have HN2 : Bx (R = partP true colon (i + 1) (l.drop (i + 1))) := ⟨by rw [hp, HRr.out]; simp [partP, h13, v0]⟩
            generalize (x.toNat : Int) = z at *
            clear hp h13 v0 HRr
            go_wp2_with fail
            go_roundw
            case rel => exact ⟨colon, i + 1, by omega, rfl, by go_num, trivial, HN2⟩
            case measure => simp [intOf]; omega
          all_goals
            obtain rfl : R = (false, 6) := by rw [hp]; simp [partP, h13, v0]
            generalize (x.toNat : Int) = z at *
            clear hp h13 v0 HRr
            go_wp2_with fail
            exact bodyPost_ret (v := .tuple #[.bool false, .int .i64 6]) (by simp [results, Tryd.results26, go_sem]) rfl ⟨rfl, rfl⟩
    · obtain rfl : i = n := by omega
      obtain rfl : R = (false, 0) := by rw [H.out, List.drop_of_length_le (by rw [HN.out]; exact Nat.le_refl _)]; rfl
      clear H
      go_wp2_with fail
      exact bodyPost_ret (v := .tuple #[.bool false, .int .i64 0]) (by simp [results, Tryd.results26, go_sem]) rfl ⟨rfl, rfl⟩
end Go.Proofs.YtkclhfoeimbikaaDoor.hd
