/-
  Given for the seat's laws: the program's Name and the document's. No condition but those of the theorems.
-/
import Derived.Test.YtkclhfoeimbikaaDoorKRef1
import Derived.Test.YtkclhfoeimbikaaDoorKTake
namespace Go.Proofs.YtkclhfoeimbikaaDoor.hd
open Go.RowKit mem
set_option linter.unusedVariables false

/-- a field name -/
def isN (s : Str) : Bool := !s.isEmpty && s.all sgn
theorem isN_bad {s : Str} {i : Nat} {x : UInt8} (hx : s[i]? = some x) (h : sgn x = false) : isN s = false := by
  have : s.all sgn = false := by
    rw [List.all_eq_false]
    exact ⟨x, List.mem_of_getElem? hx, by simp [h]⟩
  simp [isN, this]
theorem isN_all {s : Str} (h : ∀ (j : Nat) (x : UInt8), s[j]? = some x → sgn x = true) : isN s = !s.isEmpty := by
  have : s.all sgn = true := by
    rw [List.all_eq_true]
    intro x hx
    obtain ⟨j, hj, e⟩ := List.getElem_of_mem hx
    exact h j x (by rw [List.getElem?_eq_getElem hj, e])
  simp [isN, this]
set_option maxHeartbeats 1000000 in
theorem RName_any (l : Str) (hl : l.length ≤ 10000) (w : World) : Calls Tryd.prog 19 #[.string (S l)] w fun e w' => e = .returned (.bool (isN l)) ∧ w' = w := by
  obtain ⟨R, hR⟩ : ∃ R, isN l = R := ⟨_, rfl⟩
  rw [hR]
  obtain ⟨s, hs⟩ : ∃ s, s = S l := ⟨_, rfl⟩
  obtain ⟨n, hn⟩ : ∃ n, l.length = n := ⟨_, rfl⟩
  have hsz : s.size = n := by rw [hs, S_size, hn]
  rw [← hs]
  have HS := Bx.mk hs
  have HN := Bx.mk hn
  have HR := Bx.mk hR
  rw [hn] at hl
  clear hs hn hR
  go_enter Tryd.func19, Tryd.ntmps19
  go_wp2_with fail
  go_loopw [3] (fun s3 wr => ∃ i : Nat, i ≤ n ∧ s3 = .int .i64 (i : Int) ∧ wr = w ∧ Bx (∀ j x, j < i → l[j]? = some x → sgn x = true)) (fun s3 _ => n - (intOf s3).toNat)
  case atStart => exact ⟨0, by omega, rfl, rfl, ⟨fun j x hj => by omega⟩⟩
  case round =>
    obtain ⟨i, hi, rfl, hw, H⟩ := hrel
    replace hw := hw.symm
    subst hw
    by_cases hlt : i < n
    · obtain ⟨x, hx⟩ : ∃ x, l[i]? = some x := ⟨_, List.getElem?_eq_getElem (by rw [HN.out]; exact hlt)⟩
      have hix := str_at HS.out i x hx
      have i0 : (0 : Int) ≤ (i : Int) := by omega
      have i1 : (i : Int) < (n : Int) := by omega
      have hSg := RSign_any x w
      cases hsx : sgn x with
      | true =>
        rw [hsx] at hSg
        have HSg := Bx.mk hSg
        have H2 : Bx (∀ j y, j < i + 1 → l[j]? = some y → sgn y = true) := ⟨fun j y hj hy => by
          rcases (show j < i ∨ j = i by omega) with h | h
          · exact H.out j y h hy
          · rw [h, hx] at hy; rw [← Option.some.inj hy]; exact hsx⟩
        generalize (x.toNat : Int) = z at *
        clear hx hSg hsx H
        go_wp2_with fail
        refine HSg.out.mono ?_
        rintro e2 w2 ⟨rfl, hw2⟩
        replace hw2 := hw2.symm
        subst hw2
        go_wp2_with fail
        go_roundw
        case rel => exact ⟨i + 1, by omega, by go_num, trivial, H2⟩
        case measure => simp [intOf]; omega
      | false =>
        rw [hsx] at hSg
        have HSg := Bx.mk hSg
        obtain rfl : R = false := by rw [← HR.out]; exact isN_bad hx hsx
        generalize (x.toNat : Int) = z at *
        clear hx hSg hsx H HR
        go_wp2_with fail
        refine HSg.out.mono ?_
        rintro e2 w2 ⟨rfl, hw2⟩
        replace hw2 := hw2.symm
        subst hw2
        go_wp2_with fail
        exact bodyPost_ret (v := .bool false) (by simp [results, Tryd.results19, go_sem]) rfl ⟨rfl, rfl⟩
    · obtain rfl : i = n := by omega
      have hRe : R = !l.isEmpty := by
        rw [← HR.out]
        exact isN_all fun j x hx => H.out j x (by have := (List.getElem?_eq_some_iff.1 hx).1; rw [HN.out] at this; exact this) hx
      by_cases h0 : i = 0
      · obtain rfl : R = false := by
          rw [hRe]
          have : l = [] := List.eq_nil_of_length_eq_zero (by rw [HN.out]; exact h0)
          simp [this]
        have j0 : ¬ (0 : Int) < (i : Int) := by omega
        clear H HR hRe h0
        go_wp2_with fail
        exact bodyPost_ret (v := .bool false) (by simp [results, Tryd.results19, go_sem]; omega) rfl ⟨rfl, rfl⟩
      · obtain rfl : R = true := by
          rw [hRe]
          have : l ≠ [] := fun e => h0 (by rw [← HN.out, e]; rfl)
          simp [this]
        have j0 : (0 : Int) < (i : Int) := by omega
        clear H HR hRe h0
        go_wp2_with fail
        exact bodyPost_ret (v := .bool true) (by simp [results, Tryd.results19, go_sem]; omega) rfl ⟨rfl, rfl⟩
set_option maxHeartbeats 1000000 in
theorem Name_any (l : Str) (hl : l.length ≤ 10000) (w : World) : Calls Tryd.prog 18 #[.string (S l)] w fun e w' => e = .returned (.bool (isN l)) ∧ w' = w := by
  obtain ⟨R, hR⟩ : ∃ R, isN l = R := ⟨_, rfl⟩
  rw [hR]
  obtain ⟨s, hs⟩ : ∃ s, s = S l := ⟨_, rfl⟩
  obtain ⟨n, hn⟩ : ∃ n, l.length = n := ⟨_, rfl⟩
  have hsz : s.size = n := by rw [hs, S_size, hn]
  rw [← hs]
  have HS := Bx.mk hs
  have HN := Bx.mk hn
  have HR := Bx.mk hR
  rw [hn] at hl
  clear hs hn hR
  go_enter Tryd.func18, Tryd.ntmps18
  go_wp2_with fail
  go_loopw [6] (fun s6 wr => ∃ i : Nat, i ≤ n ∧ s6 = .int .i64 (i : Int) ∧ wr = w ∧ Bx (∀ j x, j < i → l[j]? = some x → sgn x = true)) (fun s6 _ => n - (intOf s6).toNat)
  case atStart => exact ⟨0, by omega, rfl, rfl, ⟨fun j x hj => by omega⟩⟩
  case round =>
    obtain ⟨i, hi, rfl, hw, H⟩ := hrel
    replace hw := hw.symm
    subst hw
    by_cases hlt : i < n
    · obtain ⟨x, hx⟩ : ∃ x, l[i]? = some x := ⟨_, List.getElem?_eq_getElem (by rw [HN.out]; exact hlt)⟩
      have hix := str_at HS.out i x hx
      have i0 : (0 : Int) ≤ (i : Int) := by omega
      have i1 : (i : Int) < (n : Int) := by omega
      have hSg := mayName_any x w
      cases hsx : sgn x with
      | true =>
        rw [hsx] at hSg
        have HSg := Bx.mk hSg
        have H2 : Bx (∀ j y, j < i + 1 → l[j]? = some y → sgn y = true) := ⟨fun j y hj hy => by
          rcases (show j < i ∨ j = i by omega) with h | h
          · exact H.out j y h hy
          · rw [h, hx] at hy; rw [← Option.some.inj hy]; exact hsx⟩
        generalize (x.toNat : Int) = z at *
        clear hx hSg hsx H
        go_wp2_with fail
        refine HSg.out.mono ?_
        rintro e2 w2 ⟨rfl, hw2⟩
        replace hw2 := hw2.symm
        subst hw2
        go_wp2_with fail
        go_roundw
        case rel => exact ⟨i + 1, by omega, by go_num, trivial, H2⟩
        case measure => simp [intOf]; omega
      | false =>
        rw [hsx] at hSg
        have HSg := Bx.mk hSg
        obtain rfl : R = false := by rw [← HR.out]; exact isN_bad hx hsx
        generalize (x.toNat : Int) = z at *
        clear hx hSg hsx H HR
        go_wp2_with fail
        refine HSg.out.mono ?_
        rintro e2 w2 ⟨rfl, hw2⟩
        replace hw2 := hw2.symm
        subst hw2
        go_wp2_with fail
        exact bodyPost_ret (v := .bool false) (by simp [results, Tryd.results18, go_sem]) rfl ⟨rfl, rfl⟩
    · obtain rfl : i = n := by omega
      have hRe : R = !l.isEmpty := by
        rw [← HR.out]
        exact isN_all fun j x hx => H.out j x (by have := (List.getElem?_eq_some_iff.1 hx).1; rw [HN.out] at this; exact this) hx
      have hem : s.toList.isEmpty = l.isEmpty := by
        rw [HS.out, empty_iff, S_list]
        cases l <;> simp
      clear H HR hlt
      cases hle : l.isEmpty with
      | true =>
        rw [hle] at hRe hem
        subst hRe
        go_wp2_with fail
        exact bodyPost_ret (v := .bool false) (by simp [results, Tryd.results18, go_sem]) rfl ⟨rfl, rfl⟩
      | false =>
        rw [hle] at hRe hem
        subst hRe
        go_wp2_with fail
        exact bodyPost_ret (v := .bool true) (by simp [results, Tryd.results18, go_sem]) rfl ⟨rfl, rfl⟩
end Go.Proofs.YtkclhfoeimbikaaDoor.hd
