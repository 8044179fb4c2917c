/-
  Given for the seat's laws: the document's small functions: bytes. No condition but those of the theorems.
-/
import Derived.Test.YtkclhfoeimbikaaDoorKFld
import Derived.Test.YtkclhfoeimbikaaDoorKPure4
namespace Go.Proofs.YtkclhfoeimbikaaDoor.hd
open Go.RowKit mem
set_option linter.unusedVariables false

theorem sgn_ranges {c : UInt8} (h : sgn c = false) : (c.toNat < 48 ∨ (58 ≤ c.toNat ∧ c.toNat < 65) ∨ (91 ≤ c.toNat ∧ c.toNat < 97) ∨ 123 ≤ c.toNat) := by
  have := byte_all (fun c => sgn c || (decide (c.toNat < 48) || (decide (58 ≤ c.toNat) && decide (c.toNat < 65)) || (decide (91 ≤ c.toNat) && decide (c.toNat < 97)) || decide (123 ≤ c.toNat))) (by decide +kernel) c
  simp only [h, Bool.false_or, Bool.or_eq_true, Bool.and_eq_true, decide_eq_true_eq] at this
  omega
theorem sgn_marks {c : UInt8} (h : sgn c = false) : ((c.toNat : Int) == 33) = false ∧ ((c.toNat : Int) == 35) = false ∧ ((c.toNat : Int) == 36) = false ∧ ((c.toNat : Int) == 37) = false ∧ ((c.toNat : Int) == 38) = false ∧ ((c.toNat : Int) == 39) = false ∧ ((c.toNat : Int) == 42) = false ∧ ((c.toNat : Int) == 43) = false ∧ ((c.toNat : Int) == 45) = false ∧ ((c.toNat : Int) == 46) = false ∧ ((c.toNat : Int) == 94) = false ∧ ((c.toNat : Int) == 95) = false ∧ ((c.toNat : Int) == 96) = false ∧ ((c.toNat : Int) == 124) = false ∧ ((c.toNat : Int) == 126) = false := by
  have := byte_all (fun c => sgn c || [33, 35, 36, 37, 38, 39, 42, 43, 45, 46, 94, 95, 96, 124, 126].all fun k : Nat => decide (c.toNat ≠ k)) (by decide +kernel) c
  simp only [h, Bool.false_or, List.all_cons, List.all_nil, Bool.and_eq_true, decide_eq_true_eq] at this
  simp only [beq_eq_false_iff_ne]
  omega
theorem sgn_kinds {c : UInt8} (h : sgn c = true) : (97 ≤ c.toNat ∧ c.toNat ≤ 122) ∨ (65 ≤ c.toNat ∧ c.toNat ≤ 90) ∨ (48 ≤ c.toNat ∧ c.toNat ≤ 57) ∨ c = 33 ∨ c = 35 ∨ c = 36 ∨ c = 37 ∨ c = 38 ∨ c = 39 ∨ c = 42 ∨ c = 43 ∨ c = 45 ∨ c = 46 ∨ c = 94 ∨ c = 95 ∨ c = 96 ∨ c = 124 ∨ c = 126 := by
  have := byte_all (fun c => !sgn c || decide ((97 ≤ c.toNat ∧ c.toNat ≤ 122) ∨ (65 ≤ c.toNat ∧ c.toNat ≤ 90) ∨ (48 ≤ c.toNat ∧ c.toNat ≤ 57) ∨ c = 33 ∨ c = 35 ∨ c = 36 ∨ c = 37 ∨ c = 38 ∨ c = 39 ∨ c = 42 ∨ c = 43 ∨ c = 45 ∨ c = 46 ∨ c = 94 ∨ c = 95 ∨ c = 96 ∨ c = 124 ∨ c = 126)) (by decide +kernel) c
  simpa [h] using this
set_option maxHeartbeats 4000000 in
theorem RSign_any (c : UInt8) (w : World) : Calls Tryd.prog 27 #[.int .u8 (c.toNat : Int)] w fun e w' => e = .returned (.bool (sgn c)) ∧ w' = w := by
  cases hs : sgn c with
  | false =>
    obtain ⟨e1, e2, e3, e4, e5, e6, e7, e8, e9, e10, e11, e12, e13, e14, e15⟩ := sgn_marks hs
    rcases sgn_ranges hs with h | h | h | h
    · have i1 : ¬ (97 : Int) ≤ (c.toNat : Int) := by omega
      have i2 : ¬ (65 : Int) ≤ (c.toNat : Int) := by omega
      have i3 : ¬ (48 : Int) ≤ (c.toNat : Int) := by omega
      clear h hs
      generalize (c.toNat : Int) = z at *
      go_enter Tryd.func27, Tryd.ntmps27
      go_wp2_with fail
      go_ret
      exact ⟨rfl, rfl⟩
    · have i1 : ¬ (97 : Int) ≤ (c.toNat : Int) := by omega
      have i2 : ¬ (65 : Int) ≤ (c.toNat : Int) := by omega
      have i3 : (48 : Int) ≤ (c.toNat : Int) := by omega
      have i4 : ¬ (c.toNat : Int) ≤ 57 := by omega
      clear h hs
      generalize (c.toNat : Int) = z at *
      go_enter Tryd.func27, Tryd.ntmps27
      go_wp2_with fail
      go_ret
      exact ⟨rfl, rfl⟩
    · have i1 : ¬ (97 : Int) ≤ (c.toNat : Int) := by omega
      have i2 : (65 : Int) ≤ (c.toNat : Int) := by omega
      have i5 : ¬ (c.toNat : Int) ≤ 90 := by omega
      have i3 : (48 : Int) ≤ (c.toNat : Int) := by omega
      have i4 : ¬ (c.toNat : Int) ≤ 57 := by omega
      clear h hs
      generalize (c.toNat : Int) = z at *
      go_enter Tryd.func27, Tryd.ntmps27
      go_wp2_with fail
      go_ret
      exact ⟨rfl, rfl⟩
    · have i1 : (97 : Int) ≤ (c.toNat : Int) := by omega
      have i6 : ¬ (c.toNat : Int) ≤ 122 := by omega
      have i2 : (65 : Int) ≤ (c.toNat : Int) := by omega
      have i5 : ¬ (c.toNat : Int) ≤ 90 := by omega
      have i3 : (48 : Int) ≤ (c.toNat : Int) := by omega
      have i4 : ¬ (c.toNat : Int) ≤ 57 := by omega
      clear h hs
      generalize (c.toNat : Int) = z at *
      go_enter Tryd.func27, Tryd.ntmps27
      go_wp2_with fail
      go_ret
      exact ⟨rfl, rfl⟩
  | true =>
    rcases sgn_kinds hs with h | h | h | h
    · have i1 : (97 : Int) ≤ (c.toNat : Int) := by omega
      have i6 : (c.toNat : Int) ≤ 122 := by omega
      clear h hs
      generalize (c.toNat : Int) = z at *
      go_enter Tryd.func27, Tryd.ntmps27
      go_wp2_with fail
      go_ret
      exact ⟨rfl, rfl⟩
    · have i1 : ¬ (97 : Int) ≤ (c.toNat : Int) := by omega
      have i2 : (65 : Int) ≤ (c.toNat : Int) := by omega
      have i5 : (c.toNat : Int) ≤ 90 := by omega
      clear h hs
      generalize (c.toNat : Int) = z at *
      go_enter Tryd.func27, Tryd.ntmps27
      go_wp2_with fail
      go_ret
      exact ⟨rfl, rfl⟩
    · have i1 : ¬ (97 : Int) ≤ (c.toNat : Int) := by omega
      have i2 : ¬ (65 : Int) ≤ (c.toNat : Int) := by omega
      have i3 : (48 : Int) ≤ (c.toNat : Int) := by omega
      have i4 : (c.toNat : Int) ≤ 57 := by omega
      clear h hs
      generalize (c.toNat : Int) = z at *
      go_enter Tryd.func27, Tryd.ntmps27
      go_wp2_with fail
      go_ret
      exact ⟨rfl, rfl⟩
    · clear hs
      rcases h with rfl | rfl | rfl | rfl | rfl | rfl | rfl | rfl | rfl | rfl | rfl | rfl | rfl | rfl | rfl
      all_goals
        go_enter Tryd.func27, Tryd.ntmps27
        go_wp2_with fail
        go_ret
        exact ⟨rfl, rfl⟩
theorem Rblank_any (c : UInt8) (w : World) : Calls Tryd.prog 37 #[.int .u8 (c.toNat : Int)] w fun e w' => e = .returned (.bool (blank c)) ∧ w' = w := by
  by_cases h1 : c = 32
  · subst h1
    go_enter Tryd.func37, Tryd.ntmps37
    go_wp2_with fail
    go_ret
    exact ⟨rfl, rfl⟩
  · by_cases h2 : c = 9
    · subst h2
      go_enter Tryd.func37, Tryd.ntmps37
      go_wp2_with fail
      go_ret
      exact ⟨rfl, rfl⟩
    · have hb : blank c = false := by simp [blank, h1, h2]
      have e1 : ((c.toNat : Int) == 32) = false := (ne_int (y := 32) h1).1
      have e2 : ((c.toNat : Int) == 9) = false := (ne_int (y := 9) h2).1
      rw [hb]
      clear hb h1 h2
      generalize (c.toNat : Int) = z at *
      go_enter Tryd.func37, Tryd.ntmps37
      go_wp2_with fail
      go_ret
      exact ⟨rfl, rfl⟩
theorem str_at {s : ByteArray} {l : Str} (hs : s = S l) (k : Nat) (c : UInt8) (h : l[k]? = some c) (W : World) : (Instr.index 9 (.string s) (.int .i64 (k : Int))).run Tryd.prog W = .ok (.int .u8 (c.toNat : Int)) W := by
  subst hs
  obtain ⟨hlt, e⟩ := List.getElem?_eq_some_iff.1 h
  rw [run_index_string (P := Tryd.prog) W 9 _ .i64 (k : Int) Tryd.underlying9, dif_pos ⟨by omega, by rw [S_size]; omega⟩]
  simp only [Int.toNat_natCast]
  have : (S l)[k]'(by rw [S_size]; exact hlt) = c := by
    have h1 := byte_at (s := S l) (k := k) (by rw [S_size]; exact hlt)
    rw [S_list, h] at h1
    exact (Option.some.inj h1).symm
  rw [this]
theorem str_to (l : Str) (k : Nat) (h : k ≤ l.length) (W : World) : (Instr.slice 9 (.string (S l)) none (some (.int .i64 (k : Int))) none).run Tryd.prog W = .ok (.string (S (l.take k))) W := by
  rw [run_slice_string_to_if W 9 _ .i64 _ Tryd.underlying9, if_pos ⟨by omega, by rw [S_size]; omega⟩]
  congr 2
  apply ByteArray.ext
  apply Array.toList_inj.1
  simp [S]
theorem str_from (l : Str) (k : Nat) (h : k ≤ l.length) (W : World) : (Instr.slice 9 (.string (S l)) (some (.int .i64 (k : Int))) none none).run Tryd.prog W = .ok (.string (S (l.drop k))) W := by
  rw [run_slice_string_from_if W 9 _ .i64 _ Tryd.underlying9, if_pos ⟨by omega, by rw [S_size]; omega⟩]
  congr 2
  apply ByteArray.ext
  apply Array.toList_inj.1
  have h2 : (S l).size - k = l.length - k := by rw [S_size]
  have h3 : (S l).size = l.length := S_size l
  simp [S]
  unfold S at h3
  simp only [h3]
  exact List.take_of_length_le (by simp)
set_option maxHeartbeats 1000000 in
theorem RLower_any (l : Str) (hl : l.length ≤ 10000) (w : World) : Calls Tryd.prog 21 #[.string (S l)] w (Gives (.string (S (low l))) w) := by
  have H0 := Bx.mk (made_nil w)
  obtain ⟨n, hn⟩ : ∃ n, l.length = n := ⟨_, rfl⟩
  have hsz : (S l).size = n := by rw [S_size]; exact hn
  obtain ⟨s, hs⟩ : ∃ s, s = S l := ⟨_, rfl⟩
  rw [← hs] at hsz ⊢
  have HS := Bx.mk hs
  have HN := Bx.mk hn
  clear hs
  rw [hn] at hl
  clear hn
  go_enter Tryd.func21, Tryd.ntmps21
  go_wp2_with fail
  go_loopw [3, 4] (fun s3 s4 wr => ∃ (i : Nat) (A : Option Addr) (c : Nat), i ≤ n ∧ s3 = .slice A i c ∧ s4 = .int .i64 (i : Int) ∧ Bx (Made w wr (.slice A i c) (low (l.take i)))) (fun s3 s4 _ => n - (intOf s4).toNat)
  case atStart => exact ⟨0, none, 0, by omega, rfl, rfl, H0⟩
  case round =>
    clear H0
    obtain ⟨i, A, c, hi, rfl, rfl, HM⟩ := hrel
    by_cases hlt : i < n
    · obtain ⟨x, hx⟩ : ∃ x, l[i]? = some x := ⟨_, List.getElem?_eq_getElem (by rw [HN.out]; exact hlt)⟩
      have hil : (low (l.take i)).length = i := by rw [low_len]; simp; rw [HN.out]; omega
      obtain ⟨A2, c2, w2, happ, hm⟩ := HM.out.push (by omega) (lw x)
      rw [hil] at happ hm
      have e : low (l.take i) ++ [lw x] = low (l.take (i + 1)) := by
        rw [List.take_add_one, hx]
        simp [low]
      rw [e] at hm
      have HAP := Bx.mk happ
      have HM2 := Bx.mk hm
      have hix := str_at HS.out i x hx
      have hw := lw_nat x
      have i1 : (i : Int) < (n : Int) := by omega
      have i0 : (0 : Int) ≤ (i : Int) := by omega
      clear happ hm e HM hil hx HN HS
      by_cases h1 : 65 ≤ x.toNat
      · have j1 : (65 : Int) ≤ (x.toNat : Int) := by omega
        by_cases h2 : x.toNat ≤ 90
        · have j2 : (x.toNat : Int) ≤ 90 := by omega
          rw [if_pos ⟨h1, h2⟩] at hw
          have hz : (x.toNat : Int) - 65 + 97 = ((lw x).toNat : Int) := by omega
          generalize ((lw x).toNat : Int) = y at *
          generalize (x.toNat : Int) = z at *
          clear hw h1 h2
          go_wp2_with (at_builtin; refine wpList_append_eq rfl _ _ rfl rfl rfl rfl HAP.out ?_)
          go_roundw
          case rel => exact ⟨i + 1, A2, c2, by omega, rfl, by go_num, HM2⟩
          case measure => simp [intOf]; omega
        · have j2 : ¬ (x.toNat : Int) ≤ 90 := by omega
          rw [if_neg (fun h => h2 h.2)] at hw
          rw [hw] at HAP
          generalize (x.toNat : Int) = z at *
          clear hw h1 h2
          go_wp2_with (at_builtin; refine wpList_append_eq rfl _ _ rfl rfl rfl rfl HAP.out ?_)
          go_roundw
          case rel => exact ⟨i + 1, A2, c2, by omega, rfl, by go_num, HM2⟩
          case measure => simp [intOf]; omega
      · have j1 : ¬ (65 : Int) ≤ (x.toNat : Int) := by omega
        rw [if_neg (fun h => h1 h.1)] at hw
        rw [hw] at HAP
        generalize (x.toNat : Int) = z at *
        clear hw h1
        go_wp2_with (at_builtin; refine wpList_append_eq rfl _ _ rfl rfl rfl rfl HAP.out ?_)
        go_roundw
        case rel => exact ⟨i + 1, A2, c2, by omega, rfl, by go_num, HM2⟩
        case measure => simp [intOf]; omega
    · obtain rfl : i = n := by omega
      have e : l.take i = l := List.take_of_length_le (by rw [HN.out]; exact Nat.le_refl _)
      rw [e] at HM
      have hst := spell_str (made_spell HM.out (by rw [low_len]; exact HN.out))
      have HE := Bx.mk HM.out.below
      clear e HM
      go_wp2_with fail
      exact bodyPost_ret (v := .string (S (low l))) (by simp [results, Tryd.results21, go_sem]) rfl ⟨rfl, HE.out⟩
end Go.Proofs.YtkclhfoeimbikaaDoor.hd
