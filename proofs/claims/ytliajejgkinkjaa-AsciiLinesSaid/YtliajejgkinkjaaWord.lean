/-
  Given for the seat's laws: the contracts of Word. No condition but those of the theorems.
-/
import Derived.Test.YtliajejgkinkjaaParse
namespace Go.Proofs.Ytliajejgkinkjaa.word
open Go.RowKit mem parse
set_option linter.unusedVariables false

def okc (c : UInt8) : Bool := decide (97 ≤ c.toNat ∧ c.toNat ≤ 122) || decide (48 ≤ c.toNat ∧ c.toNat ≤ 57)
def wordB (l : List UInt8) : Bool := decide (1 ≤ l.length ∧ l.length ≤ 8) && l.all okc

theorem word_bad {s : ByteArray} {k : Nat} (h : k < s.size) (hc : okc s[k] = false) : wordB s.data.toList = false := by
  unfold wordB
  rw [Bool.and_eq_false_iff]
  refine .inr ?_
  rw [List.all_eq_false]
  exact ⟨s[k], List.mem_of_getElem? (byte_at h), by simp [hc]⟩
theorem word_all {s : ByteArray} (h : ∀ k, (hk : k < s.size) → okc s[k] = true) : s.data.toList.all okc = true := by
  rw [List.all_eq_true]
  intro c hc
  obtain ⟨k, hk⟩ := List.getElem?_of_mem hc
  have hlt : k < s.size := by
    have := (List.getElem?_eq_some_iff.1 hk).1
    simpa using this
  rw [byte_at hlt] at hk
  cases hk
  exact h k hlt

def Says (b : Bool) (w : World) (e : Ending) (w' : World) : Prop := e = .returned (.bool b) ∧ w = w'

set_option maxHeartbeats 1000000 in
theorem word_any (s : ByteArray) (hs : s.size ≤ 1000) (w : World) : Calls Try.prog 7 #[.string s] w (Says (wordB s.data.toList) w) := by
  have hl : s.data.toList.length = s.size := by simp
  by_cases h1 : s.size < 1
  · have HF := Lib.hid (show wordB s.data.toList = false by unfold wordB; rw [hl, decide_eq_false (by omega)]; rfl)
    clear hl
    go_enter Try.func7, Try.ntmps7
    go_wp2
    go_ret
    exact ⟨by rw [HF.out]; rfl, rfl⟩
  · by_cases h8 : 8 < s.size
    · have HF := Lib.hid (show wordB s.data.toList = false by unfold wordB; rw [hl, decide_eq_false (by omega)]; rfl)
      clear hl
      go_enter Try.func7, Try.ntmps7
      go_wp2
      go_ret
      exact ⟨by rw [HF.out]; rfl, rfl⟩
    · have HL := Lib.hid hl
      clear hl
      go_enter Try.func7, Try.ntmps7
      go_wp2
      go_loop [15] (fun i => ∃ k : Nat, k ≤ s.size ∧ i = .int .i64 (k : Int) ∧ Hid (∀ j, (hj : j < s.size) → j < k → okc s[j] = true)) (fun i => s.size - (intOf i).toNat)
      case atStart => exact ⟨0, by omega, rfl, fun j _ hj => absurd hj (by omega)⟩
      case round =>
        obtain ⟨k, hk, rfl, HR⟩ := hrel
        by_cases hlt : k < s.size
        · go_upto_region 7 with fail
          obtain ⟨c, hc⟩ : ∃ c : Int, c = (s[k].toNat : Int) := ⟨_, rfl⟩
          rw [← hc]
          have HC := Lib.hid hc
          clear hc
          by_cases ha : 97 ≤ c ∧ c ≤ 122
          · obtain ⟨ha1, ha2⟩ := ha
            have HN := Lib.hid (show ∀ j, (hj : j < s.size) → j < k + 1 → okc s[j] = true from fun j hj hjk => by
              by_cases e : j = k
              · subst e
                have := HC.out
                unfold okc
                rw [decide_eq_true (show 97 ≤ s[j].toNat ∧ s[j].toNat ≤ 122 by omega)]
                rfl
              · exact HR.out j hj (by omega))
            go_wp2
            go_round
            case rel => exact ⟨k + 1, by omega, by go_num, HN⟩
            case measure => simp [intOf]; omega
          · by_cases hb : 48 ≤ c ∧ c ≤ 57
            · obtain ⟨hb1, hb2⟩ := hb
              have ha0 : c < 97 := by omega
              have HN := Lib.hid (show ∀ j, (hj : j < s.size) → j < k + 1 → okc s[j] = true from fun j hj hjk => by
                by_cases e : j = k
                · subst e
                  have := HC.out
                  unfold okc
                  rw [decide_eq_true (show 48 ≤ s[j].toNat ∧ s[j].toNat ≤ 57 by omega), Bool.or_true]
                · exact HR.out j hj (by omega))
              clear ha
              go_wp2
              go_round
              case rel => exact ⟨k + 1, by omega, by go_num, HN⟩
              case measure => simp [intOf]; omega
            · have HF := Lib.hid (word_bad hlt (by
                have := HC.out
                unfold okc
                rw [decide_eq_false (by omega), decide_eq_false (by omega)]
                rfl))
              have hcase : (c < 48) ∨ (57 < c ∧ c < 97) ∨ 122 < c := by omega
              clear ha hb
              rcases hcase with h | ⟨h, h'⟩ | h
              · have h2 : c < 97 := by omega
                go_wp2
                go_ret
                exact ⟨by rw [HF.out]; rfl, rfl⟩
              · go_wp2
                go_ret
                exact ⟨by rw [HF.out]; rfl, rfl⟩
              · have h2 : ¬ c < 97 := by omega
                have h3 : ¬ c < 48 := by omega
                have h4 : 57 < c := by omega
                go_wp2
                go_ret
                exact ⟨by rw [HF.out]; rfl, rfl⟩
        · have HF := Lib.hid (show wordB s.data.toList = true by
            unfold wordB
            rw [HL.out, decide_eq_true (by omega), word_all (fun j hj => HR.out j hj (by omega))]
            rfl)
          go_wp2
          go_ret
          exact ⟨by rw [HF.out]; rfl, rfl⟩

end Go.Proofs.Ytliajejgkinkjaa.word
