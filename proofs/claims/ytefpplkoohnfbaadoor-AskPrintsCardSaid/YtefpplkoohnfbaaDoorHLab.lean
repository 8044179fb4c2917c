/-
  Given for the seat's laws: the contracts of isLabel and isNumber. No condition but those of the theorems.
-/
import Derived.Test.YtefpplkoohnfbaaDoorHMem
namespace Go.Proofs.YtefpplkoohnfbaaDoor.hw
open Go.RowKit mem hostp
set_option linter.unusedVariables false

/-! ### digits alone -/
def digits : Str := [48, 49, 50, 51, 52, 53, 54, 55, 56, 57]
theorem digits_dig (b : UInt8) : digits.contains b = dig b := by
  have key : ∀ n, n < 256 → digits.contains (UInt8.ofNat n) = dig (UInt8.ofNat n) := by decide +kernel
  have := key b.toNat b.toNat_lt
  rwa [UInt8.ofNat_toNat] at this
theorem dropWhile_nil {p : UInt8 → Bool} : ∀ {l : Str}, l.dropWhile p = [] ↔ ∀ x ∈ l, p x = true
  | [] => by simp
  | a :: r => by
    rw [List.dropWhile_cons]
    cases h : p a
    · simp [h]
    · simp [h, dropWhile_nil (l := r)]
theorem trim_nil (l : Str) : Lib.trimS l digits = [] ↔ l.all dig = true := by
  unfold Lib.trimS Lib.trimLeftS Lib.trimRightS
  have hp : (fun b => digits.contains b) = dig := funext digits_dig
  have e : (fun x => digits.contains x) = dig := hp
  simp only [e]
  rw [List.all_eq_true]
  constructor
  · intro h
    have h1 : ∀ x ∈ (l.reverse.dropWhile dig).reverse, dig x = true := by
      intro x hx
      have := dropWhile_nil.1 h x hx
      exact this
    have h2 : l.reverse.dropWhile dig = [] := by
      cases hd : l.reverse.dropWhile dig with
      | nil => rfl
      | cons a r =>
        have h3 := List.head_dropWhile_not dig (l := l.reverse) (by rw [hd]; simp)
        simp only [hd, List.head_cons] at h3
        have h4 := h1 a (by rw [hd]; simp)
        rw [h3] at h4
        cases h4
    intro x hx
    exact dropWhile_nil.1 h2 x (by simpa using hx)
  · intro h
    have h2 : l.reverse.dropWhile dig = [] := dropWhile_nil.2 fun x hx => h x (by simpa using hx)
    rw [h2]
    rfl

theorem trim_any (s : ByteArray) (hs : s.size ≤ 1000000000) (w : World) : Calls Tryd.prog 21 #[.string s, .string ⟨#[48, 49, 50, 51, 52, 53, 54, 55, 56, 57]⟩] w (Gives (.string (S (Lib.trimS s.data.toList digits))) w) :=
  Any.strings_Trim_laid Tryd.lays160 (by kernel_rfl) s ⟨#[48, 49, 50, 51, 52, 53, 54, 55, 56, 57]⟩ w (by omega) (by decide) (ascii_of_all (by decide))

set_option maxHeartbeats 400000 in
theorem isNumber_any (s : ByteArray) (hs : s.size ≤ 1000000000) (w : World) : Calls Tryd.prog 19 #[.string s] w (Gives (.bool (s.data.toList.all dig)) w) := by
  have ht := trim_any s hs w
  have hb : (S (Lib.trimS s.data.toList digits)).toList.isEmpty = s.data.toList.all dig := by
    rw [empty_iff, S_list, Bool.eq_iff_iff, decide_eq_true_eq, trim_nil]
  generalize S (Lib.trimS s.data.toList digits) = t at ht hb
  generalize s.data.toList.all dig = b at hb
  have HT := Lib.hid ht
  clear ht hs
  go_enter Tryd.func19, Tryd.ntmps19
  go_wp2_with fail
  refine HT.out.mono ?_
  rintro e w' ⟨rfl, hB⟩
  have HB := Lib.hid hB
  clear hB
  cases b
  · go_wp2
    go_ret
    exact ⟨rfl, HB.out⟩
  · go_wp2
    go_ret
    exact ⟨rfl, HB.out⟩

/-! ### labels -/
theorem okc_all {s : ByteArray} (h : ∀ k, (hk : k < s.size) → okc s[k] = true) : ∀ c ∈ s.data.toList, okc c = true := by
  intro c hc
  obtain ⟨k, hk⟩ := List.getElem?_of_mem hc
  have hlt : k < s.size := by
    have := (List.getElem?_eq_some_iff.1 hk).1
    simpa using this
  rw [byte_at hlt] at hk
  cases hk
  exact h k hlt
theorem lab_bad {s : ByteArray} {k : Nat} (h : k < s.size) (hc : okc s[k] = false) : lab s.data.toList = false := by
  rcases hh : lab s.data.toList with _ | _
  · rfl
  · have := (lab_iff.1 hh).2.1 s[k] (List.mem_of_getElem? (byte_at h))
    rw [hc] at this
    cases this
theorem u8_45 (c : UInt8) : c = 45 ↔ c.toNat = 45 := ⟨fun h => by rw [h]; rfl, fun h => UInt8.toNat_inj.1 h⟩
theorem okc_eq (c : UInt8) : okc c = (decide (48 ≤ c.toNat) && decide (c.toNat ≤ 57) || decide (c.toNat = 45) || (decide (97 ≤ c.toNat) && decide (c.toNat ≤ 122))) := by
  unfold okc dig
  rw [decide_eq_decide.2 (u8_45 c)]
theorem lab_ends {s : ByteArray} (h : ∀ k, (hk : k < s.size) → okc s[k] = true) (h0 : 0 < s.size) : lab s.data.toList = (decide (s[0].toNat ≠ 45) && decide ((s[s.size - 1]'(by omega)).toNat ≠ 45)) := by
  have hne : s.data.toList ≠ [] := fun e => by have := list_nil.1 e; omega
  have e0 : s.data.toList.head? = some s[0] := by rw [List.head?_eq_getElem?]; exact byte_at h0
  have e1 : s.data.toList.getLast? = some (s[s.size - 1]'(by omega)) := by rw [List.getLast?_eq_getElem?, list_len]; exact byte_at (by omega)
  rw [Bool.eq_iff_iff, lab_iff, e0, e1]
  simp only [Bool.and_eq_true, decide_eq_true_eq, ne_eq, Option.some.injEq, u8_45]
  exact ⟨fun h => ⟨h.2.2.1, h.2.2.2⟩, fun hh => ⟨hne, okc_all h, hh.1, hh.2⟩⟩

def Says (b : Bool) (w : World) (e : Ending) (w' : World) : Prop := e = .returned (.bool b) ∧ w = w'

set_option maxHeartbeats 2000000 in
theorem isLabel_any (s : ByteArray) (hs : s.size ≤ 1000000000) (w : World) : Calls Tryd.prog 18 #[.string s] w (Says (lab s.data.toList) w) := by
  go_enter Tryd.func18, Tryd.ntmps18
  go_wp2
  go_loop [7] (fun i => ∃ k : Nat, k ≤ s.size ∧ i = .int .i64 (k : Int) ∧ Hid (∀ j, (hj : j < s.size) → j < k → okc s[j] = true)) (fun i => s.size - (intOf i).toNat)
  case atStart => exact ⟨0, by omega, rfl, fun j _ hj => absurd hj (by omega)⟩
  case round =>
    obtain ⟨k, hk, rfl, HR⟩ := hrel
    by_cases hlt : k < s.size
    · obtain ⟨c, hc⟩ : ∃ c : Int, (s[k].toNat : Int) = c := ⟨_, rfl⟩
      have HCC := Lib.hid hc
      have go : okc s[k] = true → Hid (∀ j, (hj : j < s.size) → j < k + 1 → okc s[j] = true) := fun h j hj hjk => by
        by_cases e : j = k
        · subst e; exact h
        · exact HR.out j hj (by omega)
      have hcase : (97 ≤ c ∧ c ≤ 122) ∨ (48 ≤ c ∧ c ≤ 57) ∨ c = 45 ∨ (c < 45) ∨ (45 < c ∧ c < 48) ∨ (57 < c ∧ c < 97) ∨ 122 < c := by omega
      rcases hcase with ⟨h1, h2⟩ | ⟨h1, h2⟩ | h1 | h1 | ⟨h1, h2⟩ | ⟨h1, h2⟩ | h1
      · have HN := go (by rw [okc_eq]; have := HCC.out; simp; omega)
        clear go
        have q1 : ¬ c < 97 := by omega
        have q2 : ¬ 122 < c := by omega
        go_wp2
        go_round
        case rel => exact ⟨k + 1, by omega, by go_num, HN⟩
        case measure => simp [intOf]; omega
      · have HN := go (by rw [okc_eq]; have := HCC.out; simp; omega)
        clear go
        have q1 : c < 97 := by omega
        have q2 : ¬ c < 48 := by omega
        have q3 : ¬ 57 < c := by omega
        go_wp2
        go_round
        case rel => exact ⟨k + 1, by omega, by go_num, HN⟩
        case measure => simp [intOf]; omega
      · have HN := go (by rw [okc_eq]; have := HCC.out; simp; omega)
        clear go
        subst h1
        go_wp2
        go_round
        case rel => exact ⟨k + 1, by omega, by go_num, HN⟩
        case measure => simp [intOf]; omega
      all_goals
        have HF := Lib.hid (lab_bad hlt (by rw [okc_eq]; have := HCC.out; simp; omega))
        clear go
      · have q1 : c < 97 := by omega
        have q2 : c < 48 := by omega
        have q3 : c ≠ 45 := by omega
        go_wp2
        go_ret
        exact ⟨by rw [HF.out]; rfl, rfl⟩
      · have q1 : c < 97 := by omega
        have q3 : c ≠ 45 := by omega
        go_wp2
        go_ret
        exact ⟨by rw [HF.out]; rfl, rfl⟩
      · have q1 : ¬ c < 48 := by omega
        have q3 : c ≠ 45 := by omega
        go_wp2
        go_ret
        exact ⟨by rw [HF.out]; rfl, rfl⟩
      · have q0 : ¬ c < 97 := by omega
        have q1 : ¬ c < 48 := by omega
        have q2 : 57 < c := by omega
        have q3 : c ≠ 45 := by omega
        go_wp2
        go_ret
        exact ⟨by rw [HF.out]; rfl, rfl⟩
    · obtain rfl : k = s.size := by omega
      by_cases h0 : s.size = 0
      · have HF := Lib.hid (show lab s.data.toList = false by rw [list_nil.2 h0]; rfl)
        have e1 : s.toList.isEmpty = true := by rw [empty_iff, decide_eq_true (list_nil.2 h0)]
        have e2 : s.toList = [] := by rw [Lib.toList_data]; exact list_nil.2 h0
        go_wp2
        go_ret
        exact ⟨by rw [HF.out]; rfl, rfl⟩
      · have hl := lab_ends (fun j hj => HR.out j hj hj) (by omega)
        have e1 : s.toList.isEmpty = false := by rw [empty_iff, decide_eq_false (fun e => h0 (list_nil.1 e))]
        have e2 : ¬ s.toList = [] := by rw [Lib.toList_data]; exact fun e => h0 (list_nil.1 e)
        have hp : 0 < s.size := by omega
        obtain ⟨a, ha⟩ : ∃ a : Int, (s[0].toNat : Int) = a := ⟨_, rfl⟩
        obtain ⟨b, hb⟩ : ∃ b : Int, ((s[s.size - 1]'(by omega)).toNat : Int) = b := ⟨_, rfl⟩
        have hix : ∀ W, (Instr.index 9 (.string s) (.int .i64 ((s.size : Int) - 1))).run Tryd.prog W = .ok (.int .u8 b) W := fun W => by
          rw [run_index_string (P := Tryd.prog) W 9 s .i64 ((s.size : Int) - 1) Tryd.underlying9, dif_pos ⟨by omega, by omega⟩]
          have h9 : ((s.size : Int) - 1).toNat = s.size - 1 := by omega
          simp only [h9, hb]
        have HL := Lib.hid (show lab s.data.toList = (decide (a ≠ 45) && decide (b ≠ 45)) by
          rw [hl]
          have e1 : (s[0].toNat ≠ 45) ↔ a ≠ 45 := by omega
          have e2 : ((s[s.size - 1]'(by omega)).toNat ≠ 45) ↔ b ≠ 45 := by omega
          simp only [e1, e2])
        clear hl hb h0
        by_cases q1 : a = 45
        · subst q1
          go_wp2
          go_ret
          exact ⟨by rw [HL.out]; rfl, rfl⟩
        · by_cases q2 : b = 45
          · subst q2
            go_wp2
            go_ret
            exact ⟨by rw [HL.out]; simp, rfl⟩
          · go_wp2
            go_ret
            exact ⟨by rw [HL.out]; simp [q1, q2], rfl⟩

end Go.Proofs.YtefpplkoohnfbaaDoor.hw
