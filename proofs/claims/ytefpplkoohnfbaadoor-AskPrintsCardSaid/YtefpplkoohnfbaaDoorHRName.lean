/-
  Given for the seat's laws: the document's own answers: the contracts of its Name, May and MayTarget. No condition but those of the theorems.
-/
import Derived.Test.YtefpplkoohnfbaaDoorHMay
namespace Go.Proofs.YtefpplkoohnfbaaDoor.hw
open Go.RowKit mem hostp
set_option linter.unusedVariables false

theorem go_dot0 {r : Str} {nums : Bool} {last : UInt8} : nmGo (46 :: r) 0 nums last = false := by unfold nmGo; rw [if_pos rfl, if_pos (.inl rfl)]
theorem go_dot45 {r : Str} {long : Nat} {nums : Bool} : nmGo (46 :: r) long nums 45 = false := by unfold nmGo; rw [if_pos rfl, if_pos (.inr rfl)]
theorem go_dot {r : Str} {long : Nat} {nums : Bool} {last : UInt8} (h : long ≠ 0) (h2 : last ≠ 45) : nmGo (46 :: r) long nums last = nmGo r 0 true 46 := by rw [nmGo, if_pos rfl, if_neg (by rintro (e | e); exact h e; exact h2 e)]
theorem go_bad {c : UInt8} {r : Str} {long : Nat} {nums : Bool} {last : UInt8} (h : c ≠ 46) (h2 : okc c = false ∨ (c = 45 ∧ long = 0)) : nmGo (c :: r) long nums last = false := by unfold nmGo; rw [if_neg h, if_pos h2]
theorem go_next {c : UInt8} {r : Str} {long : Nat} {nums : Bool} {last : UInt8} (h : c ≠ 46) (h2 : okc c = true) (h3 : ¬ (c = 45 ∧ long = 0)) : nmGo (c :: r) long nums last = nmGo r (long + 1) (nums && dig c) c := by
  rw [nmGo, if_neg h, if_neg (by rintro (e | e); rw [h2] at e; cases e; exact h3 e)]
theorem u8_ne {c : UInt8} {d : UInt8} (h : c.toNat ≠ d.toNat) : c ≠ d := fun e => h (by rw [e])
theorem u8_is {c : UInt8} {d : UInt8} (h : c.toNat = d.toNat) : c = d := UInt8.toNat_inj.1 h
theorem dig_yes {c : UInt8} (h : 48 ≤ c.toNat ∧ c.toNat ≤ 57) : dig c = true := by unfold dig; simp [h]
theorem dig_no {c : UInt8} (h : ¬ (48 ≤ c.toNat ∧ c.toNat ≤ 57)) : dig c = false := by unfold dig; simp; omega
theorem okc_yes {c : UInt8} (h : 48 ≤ c.toNat ∧ c.toNat ≤ 57 ∨ c.toNat = 45 ∨ 97 ≤ c.toNat ∧ c.toNat ≤ 122) : okc c = true := by rw [okc_eq]; simp; omega
theorem okc_no {c : UInt8} (h : ¬ (48 ≤ c.toNat ∧ c.toNat ≤ 57 ∨ c.toNat = 45 ∨ 97 ≤ c.toNat ∧ c.toNat ≤ 122)) : okc c = false := by rw [okc_eq]; simp; omega
theorem n46 : (46 : UInt8).toNat = 46 := rfl
theorem n45 : (45 : UInt8).toNat = 45 := rfl

set_option maxHeartbeats 400000 in
theorem rname_out (s : ByteArray) (h : s.size = 0 ∨ 40 < s.size) (w : World) : Calls Tryd.prog 14 #[.string s] w (Says (nameB s.data.toList) w) := by
  have HF := Lib.hid (show nameB s.data.toList = false by
    rcases h with h | h
    · rw [list_nil.2 h]; exact nameB_nil
    · exact nameB_long (by rw [list_len]; omega))
  rcases h with h | h
  · go_enter Tryd.func14, Tryd.ntmps14
    go_wp2
    go_ret
    exact ⟨by rw [HF.out]; rfl, rfl⟩
  · have h0 : ((s.size : Int) == 0) = false := beq_eq_false_iff_ne.2 (by omega)
    go_enter Tryd.func14, Tryd.ntmps14
    go_wp2
    go_ret
    exact ⟨by rw [HF.out]; rfl, rfl⟩

set_option maxRecDepth 100000 in
set_option maxHeartbeats 4000000 in
theorem rname_in (s : ByteArray) (h1 : 0 < s.size) (h40 : s.size ≤ 40) (w : World) : Calls Tryd.prog 14 #[.string s] w (Says (nameB s.data.toList) w) := by
  have h00 : ((s.size : Int) == 0) = false := beq_eq_false_iff_ne.2 (by omega)
  have HN := Lib.hid (nmGo_name (s := s.data.toList) (by rw [list_len]; exact h40) 0)
  go_enter Tryd.func14, Tryd.ntmps14
  go_wp2
  go_loop [3, 4, 5] (fun s3 s4 s5 => ∃ (k long : Nat) (nums : Bool) (last : UInt8), k ≤ s.size ∧ long ≤ k ∧ s3 = .int .i64 (long : Int) ∧ s4 = .bool nums ∧ s5 = .int .i64 (k : Int) ∧ Hid (nmGo (s.data.toList.drop k) long nums last = nameB s.data.toList) ∧ Hid (∀ j, (hj : j < s.size) → j + 1 = k → s[j] = last)) (fun _ _ s5 => s.size - (intOf s5).toNat)
  case atStart => exact ⟨0, 0, true, 0, by omega, by omega, rfl, rfl, rfl, by rw [List.drop_zero]; exact HN, fun j hj e => by omega⟩
  case round =>
    clear HN
    obtain ⟨k, long, nums, last, hk, hlk, rfl, rfl, rfl, HG, HLAST⟩ := hrel
    by_cases hlt : k < s.size
    · obtain ⟨b, hb⟩ : ∃ b : UInt8, s[k] = b := ⟨_, rfl⟩
      have hdr : s.data.toList.drop k = b :: s.data.toList.drop (k + 1) := by
        rw [List.drop_eq_getElem_cons (by rw [list_len]; exact hlt)]
        congr 1
      have hg := HG.out
      rw [hdr] at hg
      obtain ⟨c, hc⟩ : ∃ c : Int, (s[k].toNat : Int) = c := ⟨_, rfl⟩
      have hcb : (b.toNat : Int) = c := by rw [← hb, hc]
      have HCB := Lib.hid hcb
      have HNL : Hid (∀ j, (hj : j < s.size) → j + 1 = k + 1 → s[j] = b) := fun j hj e => by
        obtain rfl : j = k := by omega
        exact hb
      have HGG := Lib.hid hg
      clear hb hdr hcb hg HG
      by_cases hA : c = 46
      · obtain rfl : b = 46 := u8_is (by have := HCB.out; rw [n46]; omega)
        subst hA
        clear HCB
        by_cases hl0 : long = 0
        · subst hl0
          have HF := Lib.hid (HGG.out.symm.trans go_dot0)
          go_wp2
          go_ret
          exact ⟨by rw [HF.out]; rfl, rfl⟩
        · have hkp : k - 1 < s.size := by omega
          have hix : ∀ W, (Instr.index 9 (.string s) (.int .i64 ((k : Int) - 1))).run Tryd.prog W = .ok (.int .u8 ((last.toNat : Nat) : Int)) W := fun W => by
            rw [run_index_string (P := Tryd.prog) W 9 s .i64 _ Tryd.underlying9, dif_pos ⟨by omega, by omega⟩]
            have h9 : ((k : Int) - 1).toNat = k - 1 := by omega
            have h8 : s[k - 1] = last := HLAST.out (k - 1) hkp (by omega)
            simp only [h9, h8]
          have hl1 : ((long : Int) == 0) = false := beq_eq_false_iff_ne.2 (by omega)
          obtain ⟨d, hd⟩ : ∃ d : Int, d = ((last.toNat : Nat) : Int) := ⟨_, rfl⟩
          simp only [← hd] at hix
          by_cases h45 : d = 45
          · have e45 : last = 45 := u8_is (by rw [n45]; omega)
            have HF := Lib.hid (HGG.out.symm.trans (by rw [e45, go_dot45]))
            clear hd e45
            subst h45
            go_wp2
            go_ret
            exact ⟨by rw [HF.out]; rfl, rfl⟩
          · have HN2 := Lib.hid ((go_dot (r := s.data.toList.drop (k + 1)) (nums := nums) hl0 (fun e : last = 45 => h45 (by rw [hd, e]; rfl))).symm.trans HGG.out)
            have hd45 : (d == 45) = false := beq_eq_false_iff_ne.2 h45
            clear hd h45 HLAST
            go_wp2
            go_round
            case rel => exact ⟨k + 1, 0, true, 46, by omega, by omega, rfl, rfl, by go_num, HN2, HNL⟩
            case measure => simp [intOf]; omega
      · have hb46 : b ≠ 46 := u8_ne (by have := HCB.out; rw [n46]; omega)
        have hA' : (c == 46) = false := beq_eq_false_iff_ne.2 hA
        have stp : okc b = true → ¬ (b = 45 ∧ long = 0) → Hid (nmGo (s.data.toList.drop (k + 1)) (long + 1) (nums && dig b) b = nameB s.data.toList) := fun h2 h3 => (go_next hb46 h2 h3).symm.trans HGG.out
        have bad : (okc b = false ∨ (b = 45 ∧ long = 0)) → Hid (nameB s.data.toList = false) := fun h2 => HGG.out.symm.trans (go_bad hb46 h2)
        by_cases hB : c = 45
        · have e45 : b = 45 := u8_is (by have := HCB.out; rw [n45]; omega)
          by_cases hl0 : long = 0
          · have HF := bad (.inr ⟨e45, hl0⟩)
            subst hl0 hB
            clear stp bad e45
            go_wp2
            go_ret
            exact ⟨by rw [HF.out]; rfl, rfl⟩
          · have HS := stp (by rw [e45]; decide) (fun e => hl0 e.2)
            rw [show dig b = false by rw [e45]; decide, Bool.and_false] at HS
            have hl1 : ((long : Int) == 0) = false := beq_eq_false_iff_ne.2 (by omega)
            clear stp bad e45 HLAST hA
            subst hB
            cases nums
            · go_wp2
              go_round
              case rel => exact ⟨k + 1, long + 1, false, b, by omega, by omega, by go_num, rfl, by go_num, HS, HNL⟩
              case measure => simp [intOf]; omega
            · go_wp2
              go_round
              case rel => exact ⟨k + 1, long + 1, false, b, by omega, by omega, by go_num, rfl, by go_num, HS, HNL⟩
              case measure => simp [intOf]; omega
        · have hB' : (c == 45) = false := beq_eq_false_iff_ne.2 hB
          have hb45 : b ≠ 45 := u8_ne (by have := HCB.out; rw [n45]; omega)
          by_cases hC : 48 ≤ c ∧ c ≤ 57
          · have HS := stp (okc_yes (by have := HCB.out; omega)) (fun e => hb45 e.1)
            rw [dig_yes (by have := HCB.out; omega), Bool.and_true] at HS
            obtain ⟨q1, q2⟩ := hC
            clear stp bad HLAST hA hB
            cases nums
            · go_wp2
              go_round
              case rel => exact ⟨k + 1, long + 1, false, b, by omega, by omega, by go_num, rfl, by go_num, HS, HNL⟩
              case measure => simp [intOf]; omega
            · go_wp2
              go_round
              case rel => exact ⟨k + 1, long + 1, true, b, by omega, by omega, by go_num, rfl, by go_num, HS, HNL⟩
              case measure => simp [intOf]; omega
          · by_cases hD : 97 ≤ c ∧ c ≤ 122
            · have HS := stp (okc_yes (by have := HCB.out; omega)) (fun e => hb45 e.1)
              rw [dig_no (by have := HCB.out; omega), Bool.and_false] at HS
              obtain ⟨q1, q2⟩ := hD
              have q3 : 48 ≤ c := by omega
              have q4 : ¬ c ≤ 57 := by omega
              have q5 : ¬ c < 97 := by omega
              have q6 : ¬ 122 < c := by omega
              clear stp bad HLAST hA hB hC
              cases nums
              · go_wp2
                go_round
                case rel => exact ⟨k + 1, long + 1, false, b, by omega, by omega, by go_num, rfl, by go_num, HS, HNL⟩
                case measure => simp [intOf]; omega
              · go_wp2
                go_round
                case rel => exact ⟨k + 1, long + 1, false, b, by omega, by omega, by go_num, rfl, by go_num, HS, HNL⟩
                case measure => simp [intOf]; omega
            · have HF := bad (.inl (okc_no (by have := HCB.out; omega)))
              clear stp bad HLAST
              have hcase : c < 48 ∨ (57 < c ∧ c < 97) ∨ 122 < c := by omega
              rcases hcase with q | ⟨q, q'⟩ | q
              · have q3 : ¬ 48 ≤ c := by omega
                have q4 : c < 97 := by omega
                clear hC hD
                go_wp2
                go_ret
                exact ⟨by rw [HF.out]; rfl, rfl⟩
              · have q3 : 48 ≤ c := by omega
                have q4 : ¬ c ≤ 57 := by omega
                clear hC hD
                go_wp2
                go_ret
                exact ⟨by rw [HF.out]; rfl, rfl⟩
              · have q3 : 48 ≤ c := by omega
                have q4 : ¬ c ≤ 57 := by omega
                have q5 : ¬ c < 97 := by omega
                clear hC hD
                go_wp2
                go_ret
                exact ⟨by rw [HF.out]; rfl, rfl⟩
    · obtain rfl : k = s.size := by omega
      have hg := HG.out
      rw [List.drop_eq_nil_of_le (by rw [list_len]; exact Nat.le_refl _)] at hg
      have hg2 : (decide (0 < long) && decide (last ≠ 45) && !nums) = nameB s.data.toList := hg
      by_cases hl0 : 0 < long
      · have hix : ∀ W, (Instr.index 9 (.string s) (.int .i64 ((s.size : Int) - 1))).run Tryd.prog W = .ok (.int .u8 ((last.toNat : Nat) : Int)) W := fun W => by
          rw [run_index_string (P := Tryd.prog) W 9 s .i64 _ Tryd.underlying9, dif_pos ⟨by omega, by omega⟩]
          have h9 : ((s.size : Int) - 1).toNat = s.size - 1 := by omega
          have h8 : (s[s.size - 1]'(by omega)) = last := HLAST.out (s.size - 1) (by omega) (by omega)
          simp only [h9, h8]
        obtain ⟨d, hd⟩ : ∃ d : Int, d = ((last.toNat : Nat) : Int) := ⟨_, rfl⟩
        simp only [← hd] at hix
        by_cases h45 : d = 45
        · have e45 : last = 45 := u8_is (by rw [n45]; omega)
          have HF := Lib.hid (show nameB s.data.toList = false by rw [← hg2, e45]; simp)
          clear hd e45 hg hg2 HG HLAST
          subst h45
          go_wp2
          go_ret
          exact ⟨by rw [HF.out]; rfl, rfl⟩
        · have hd45 : (d != 45) = true := bne_iff_ne.2 h45
          have HF := Lib.hid (show nameB s.data.toList = !nums by rw [← hg2, decide_eq_true hl0, decide_eq_true (show last ≠ 45 from fun e => h45 (by rw [hd, e]; rfl))]; rfl)
          clear hd h45 hg hg2 HG HLAST
          cases nums
          · go_wp2
            go_ret
            exact ⟨by rw [HF.out]; rfl, rfl⟩
          · go_wp2
            go_ret
            exact ⟨by rw [HF.out]; rfl, rfl⟩
      · obtain rfl : long = 0 := by omega
        have HF := Lib.hid (show nameB s.data.toList = false by rw [← hg2]; rfl)
        clear hg hg2 HG HLAST
        go_wp2
        go_ret
        exact ⟨by rw [HF.out]; rfl, rfl⟩

theorem rname_any (s : ByteArray) (w : World) : Calls Tryd.prog 14 #[.string s] w (Says (nameB s.data.toList) w) := by
  by_cases h : s.size = 0 ∨ 40 < s.size
  · exact rname_out s h w
  · exact rname_in s (by omega) (by omega) w

end Go.Proofs.YtefpplkoohnfbaaDoor.hw
