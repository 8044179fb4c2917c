/-
  Given for the seat's laws: the walk of AsciiCases. No condition but those of the theorems.
-/
import Derived.Test.YtliajejgkinkjabAwake
import Derived.Test.YtliajejgkinkjabLower
namespace Go.Proofs.Ytliajejgkinkjab.cases
open Go.RowKit mem reader parse num word lower awake
set_option linter.unusedVariables false

theorem word_low {s : ByteArray} (h : wordB s.data.toList = true) : lowS s = s := by
  unfold wordB at h
  rw [Bool.and_eq_true, List.all_eq_true] at h
  have hm : lowL s.data.toList = s.data.toList := by
    unfold lowL
    conv => rhs; rw [← List.map_id s.data.toList]
    apply List.map_congr_left
    intro c hc
    have := h.2 c hc
    unfold okc at this
    refine lowc_else ?_
    simp at this
    omega
  unfold lowS
  rw [hm]
theorem low_byte {s : ByteArray} {k : Nat} (h : k < (lowS s).size) : ¬ (65 ≤ (lowS s)[k].toNat ∧ (lowS s)[k].toNat ≤ 90) := by
  have h1 := sbyte h
  have h2 : (lowS s).data.toList = lowL s.data.toList := by unfold lowS; simp
  rw [h2] at h1
  unfold lowL at h1
  rw [List.getElem?_map] at h1
  cases hc : s.data.toList[k]? with
  | none => rw [hc] at h1; cases h1
  | some c =>
    rw [hc] at h1
    have : lowc c = (lowS s)[k] := by simpa using h1
    rw [← this]
    exact lowc_no c

set_option maxHeartbeats 400000 in
theorem cases_out (s : ByteArray) (w : World) (hm : Max w) (hs : 100 < s.size) : Calls Try.prog 4 #[.string s] w fun e w' => e = .returned (.bool true) ∧ Below w.heap.size w w' := by
  have HA := Lib.hid (awake_any w hm)
  clear hm
  go_enter Try.func4, Try.ntmps4
  go_wp2_with fail
  refine HA.out.mono ?_
  rintro e w1 ⟨rfl, h1⟩
  go_wp2
  go_ret
  exact ⟨rfl, h1⟩

set_option maxHeartbeats 1000000 in
theorem cases_in (s t : ByteArray) (w : World) (hm : Max w) (hs : s.size ≤ 100) (ht : lowS s = t) (b : Bool) (hw : wordB s.data.toList = b) (hbt : b = true → t = s ∧ s.size ≤ 8) : Calls Try.prog 4 #[.string s] w fun e w' => e = .returned (.bool true) ∧ Below w.heap.size w w' := by
  have hts : t.size = s.size := by rw [← ht, lowS_size]
  have htt : lowS t = t := by rw [← ht, lowS_lowS]
  have hgr : ∀ k, (hk : k < t.size) → ¬ (65 ≤ t[k].toNat ∧ t[k].toNat ≤ 90) := by subst ht; exact fun k hk => low_byte hk
  have HA := Lib.hid (awake_any w hm)
  have hl1 := fun W => lower_any s (by omega) W
  have hl2 := fun W => lower_any t (by omega) W
  have hsm := fun W => same_low s t (by omega) (by omega) W
  have hwd := fun W => word_any s (by omega) W
  unfold Lowered at hl1 hl2
  rw [ht] at hl1
  rw [htt] at hl2
  rw [ht, htt] at hsm
  rw [hw] at hwd
  have hself : (t.toList == t.toList) = true := beq_self_eq_true _
  rw [hself] at hsm
  have HL1 := Lib.hid hl1
  have HL2 := Lib.hid hl2
  have HSM := Lib.hid hsm
  have HW := Lib.hid hwd
  have HG := Lib.hid hgr
  have HT := Lib.hid hts
  have HBT := Lib.hid hbt
  have hszt : t.size ≤ 100 := by omega
  clear hl1 hl2 hsm hwd hgr hts htt ht hm hw hbt hself
  go_enter Try.func4, Try.ntmps4
  go_wp2_with fail
  refine HA.out.mono ?_
  rintro e w1 ⟨rfl, h1⟩
  go_wp2_with fail
  refine (HL1.out _).mono ?_
  rintro e w2 ⟨rfl, h2⟩
  have H12 := Lib.hid (h1.trans (h2.mono h1.size))
  clear h1 h2 HA
  go_wp2_with fail
  go_loop [4] (fun i => ∃ k : Nat, k ≤ t.size ∧ i = .int .i64 (k : Int)) (fun i => t.size - (intOf i).toNat)
  case atStart => exact ⟨0, by omega, rfl⟩
  case round =>
    obtain ⟨k, hk, rfl⟩ := hrel
    by_cases hlt : k < t.size
    · have hno := HG.out k hlt
      obtain ⟨c, hc⟩ : ∃ c : Int, (t[k].toNat : Int) = c := ⟨_, rfl⟩
      have hcase : c < 65 ∨ (65 ≤ c ∧ 90 < c) := by omega
      clear hno
      rcases hcase with h | ⟨h, h'⟩
      · go_wp2
        go_round
        case rel => exact ⟨k + 1, by omega, by go_num⟩
        case measure => simp [intOf]; omega
      · go_wp2
        go_round
        case rel => exact ⟨k + 1, by omega, by go_num⟩
        case measure => simp [intOf]; omega
    · obtain rfl : k = t.size := by omega
      cases b with
      | false =>
        have ht0 := HT.out
        go_wp2_with fail
        refine (HL2.out _).mono ?_
        rintro e w3 ⟨rfl, h3⟩
        go_wp2_with fail
        refine (HSM.out _).mono ?_
        rintro e w4 ⟨rfl, h4⟩
        have H14 := Lib.hid (H12.out.trans ((h3.trans (h4.mono h3.size)).mono H12.out.size))
        clear h3 h4
        go_wp2_with fail
        refine (HW.out _).mono ?_
        rintro e w' ⟨rfl, rfl⟩
        go_wp2
        go_ret
        exact ⟨rfl, H14.out⟩
      | true =>
        obtain ⟨rfl, hs8⟩ := HBT.out rfl
        have hd8 : decide ((t.size : Int) ≤ 8) = true := decide_eq_true (by omega)
        go_wp2_with fail
        refine (HL2.out _).mono ?_
        rintro e w3 ⟨rfl, h3⟩
        go_wp2_with fail
        refine (HSM.out _).mono ?_
        rintro e w4 ⟨rfl, h4⟩
        have H14 := Lib.hid (H12.out.trans ((h3.trans (h4.mono h3.size)).mono H12.out.size))
        clear h3 h4
        go_wp2_with fail
        refine (HW.out _).mono ?_
        rintro e w' ⟨rfl, rfl⟩
        go_wp2
        go_ret
        exact ⟨rfl, H14.out⟩

theorem walk (s : ByteArray) (w : World) (hm : Max w) : Calls Try.prog 4 #[.string s] w fun e w' => e = .returned (.bool true) ∧ Below w.heap.size w w' := by
  by_cases hs : 100 < s.size
  · exact cases_out s w hm hs
  · refine cases_in s (lowS s) w hm (by omega) rfl (wordB s.data.toList) rfl (fun h => ⟨word_low h, ?_⟩)
    unfold wordB at h
    rw [Bool.and_eq_true, decide_eq_true_eq] at h
    have hl : s.data.toList.length = s.size := by simp
    omega

end Go.Proofs.Ytliajejgkinkjab.cases
