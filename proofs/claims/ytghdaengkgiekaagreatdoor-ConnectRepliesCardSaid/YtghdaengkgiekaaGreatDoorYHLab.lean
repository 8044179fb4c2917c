/-
  Given for the seat's laws: the contracts of isLabel and isNumber. No condition but those of the theorems.
-/
import Derived.Test.YtghdaengkgiekaaGreatDoorYHMem
import Derived.Lib.SplitLaws
import Derived.Lib.IndexBytes
import Derived.Lib.Replace
namespace Go.Proofs.YtghdaengkgiekaaGreatDoor.hw
open Go.RowKit mem hostp
set_option linter.unusedVariables false

/-! ### digits alone -/
def digits : Str := [48, 49, 50, 51, 52, 53, 54, 55, 56, 57]
theorem digits_dig (b : UInt8) : digits.contains b = dig b := by
  have key : ∀ n, n < 256 → digits.contains (UInt8.ofNat n) = dig (UInt8.ofNat n) := by decide +kernel
  have := key b.toNat b.toNat_lt
  rwa [UInt8.ofNat_toNat] at this
theorem dropWhile_nil {p : UInt8 → Bool} : ∀ {l : Str}, l.dropWhile p = [] ↔ ∀ x ∈ l, p x = true
  | [] => by simp
  | a :: r => by
    rw [List.dropWhile_cons]
    cases h : p a
    · simp [h]
    · simp [h, dropWhile_nil (l := r)]
theorem trim_nil (l : Str) : Lib.trimS l digits = [] ↔ l.all dig = true := by
  unfold Lib.trimS Lib.trimLeftS Lib.trimRightS
  have hp : (fun b => digits.contains b) = dig := funext digits_dig
  have e : (fun x => digits.contains x) = dig := hp
  simp only [e]
  rw [List.all_eq_true]
  constructor
  · intro h
    have h1 : ∀ x ∈ (l.reverse.dropWhile dig).reverse, dig x = true := by
      intro x hx
      have := dropWhile_nil.1 h x hx
      exact this
    have h2 : l.reverse.dropWhile dig = [] := by
      cases hd : l.reverse.dropWhile dig with
      | nil => rfl
      | cons a r =>
        have h3 := List.head_dropWhile_not dig (l := l.reverse) (by rw [hd]; simp)
        simp only [hd, List.head_cons] at h3
        have h4 := h1 a (by rw [hd]; simp)
        rw [h3] at h4
        cases h4
    intro x hx
    exact dropWhile_nil.1 h2 x (by simpa using hx)
  · intro h
    have h2 : l.reverse.dropWhile dig = [] := dropWhile_nil.2 fun x hx => h x (by simpa using hx)
    rw [h2]
    rfl

theorem trim_any (s : ByteArray) (hs : s.size ≤ 1000000000) (w : World) : Calls Tryz.prog 137 #[.string s, .string ⟨#[48, 49, 50, 51, 52, 53, 54, 55, 56, 57]⟩] w (Gives (.string (S (Lib.trimS s.data.toList digits))) w) :=
  Any.strings_Trim_laid Tryz.lays160 (by kernel_rfl) s ⟨#[48, 49, 50, 51, 52, 53, 54, 55, 56, 57]⟩ w (by omega) (by decide) (ascii_of_all (by decide))

set_option maxHeartbeats 400000 in
theorem isNumber_any (s : ByteArray) (hs : s.size ≤ 1000000000) (w : World) : Calls Tryz.prog 116 #[.string s] w (Gives (.bool (s.data.toList.all dig)) w) := by
  have ht := trim_any s hs w
  have hb : (S (Lib.trimS s.data.toList digits)).toList.isEmpty = s.data.toList.all dig := by
    rw [empty_iff, S_list, Bool.eq_iff_iff, decide_eq_true_eq, trim_nil]
  generalize S (Lib.trimS s.data.toList digits) = t at ht hb
  generalize s.data.toList.all dig = b at hb
  have HT := Lib.hid ht
  clear ht hs
  go_enter Tryz.func116, Tryz.ntmps116
  go_wp2_with fail
  refine HT.out.mono ?_
  rintro e w' ⟨rfl, hB⟩
  have HB := Lib.hid hB
  clear hB
  cases b
  · go_wp2
    go_ret
    exact ⟨rfl, HB.out⟩
  · go_wp2
    go_ret
    exact ⟨rfl, HB.out⟩

/-! ### labels -/
theorem okc_all {s : ByteArray} (h : ∀ k, (hk : k < s.size) → okc s[k] = true) : ∀ c ∈ s.data.toList, okc c = true := by
  intro c hc
  obtain ⟨k, hk⟩ := List.getElem?_of_mem hc
  have hlt : k < s.size := by
    have := (List.getElem?_eq_some_iff.1 hk).1
    simpa using this
  rw [byte_at hlt] at hk
  cases hk
  exact h k hlt
theorem lab_bad {s : ByteArray} {k : Nat} (h : k < s.size) (hc : okc s[k] = false) : lab s.data.toList = false := by
  rcases hh : lab s.data.toList with _ | _
  · rfl
  · have := (lab_iff.1 hh).2.1 s[k] (List.mem_of_getElem? (byte_at h))
    rw [hc] at this
    cases this
theorem u8_45 (c : UInt8) : c = 45 ↔ c.toNat = 45 := ⟨fun h => by rw [h]; rfl, fun h => UInt8.toNat_inj.1 h⟩
theorem okc_eq (c : UInt8) : okc c = (decide (48 ≤ c.toNat) && decide (c.toNat ≤ 57) || decide (c.toNat = 45) || (decide (97 ≤ c.toNat) && decide (c.toNat ≤ 122))) := by
  unfold okc dig
  rw [decide_eq_decide.2 (u8_45 c)]
theorem lab_ends {s : ByteArray} (h : ∀ k, (hk : k < s.size) → okc s[k] = true) (h0 : 0 < s.size) : lab s.data.toList = (decide (s[0].toNat ≠ 45) && decide ((s[s.size - 1]'(by omega)).toNat ≠ 45)) := by
  have hne : s.data.toList ≠ [] := fun e => by have := list_nil.1 e; omega
  have e0 : s.data.toList.head? = some s[0] := by rw [List.head?_eq_getElem?]; exact byte_at h0
  have e1 : s.data.toList.getLast? = some (s[s.size - 1]'(by omega)) := by rw [List.getLast?_eq_getElem?, list_len]; exact byte_at (by omega)
  rw [Bool.eq_iff_iff, lab_iff, e0, e1]
  simp only [Bool.and_eq_true, decide_eq_true_eq, ne_eq, Option.some.injEq, u8_45]
  exact ⟨fun h => ⟨h.2.2.1, h.2.2.2⟩, fun hh => ⟨hne, okc_all h, hh.1, hh.2⟩⟩

def Says (b : Bool) (w : World) (e : Ending) (w' : World) : Prop := e = .returned (.bool b) ∧ w = w'

set_option maxHeartbeats 2000000 in
theorem isLabel_any (s : ByteArray) (hs : s.size ≤ 1000000000) (w : World) : Calls Tryz.prog 115 #[.string s] w (Says (lab s.data.toList) w) := by
  go_enter Tryz.func115, Tryz.ntmps115
  go_wp2
  go_loop [7] (fun i => ∃ k : Nat, k ≤ s.size ∧ i = .int .i64 (k : Int) ∧ Hid (∀ j, (hj : j < s.size) → j < k → okc s[j] = true)) (fun i => s.size - (intOf i).toNat)
  case atStart => exact ⟨0, by omega, rfl, fun j _ hj => absurd hj (by omega)⟩
  case round =>
    obtain ⟨k, hk, rfl, HR⟩ := hrel
    by_cases hlt : k < s.size
    · obtain ⟨c, hc⟩ : ∃ c : Int, (s[k].toNat : Int) = c := ⟨_, rfl⟩
      have HCC := Lib.hid hc
      have go : okc s[k] = true → Hid (∀ j, (hj : j < s.size) → j < k + 1 → okc s[j] = true) := fun h j hj hjk => by
        by_cases e : j = k
        · subst e; exact h
        · exact HR.out j hj (by omega)
      have hcase : (97 ≤ c ∧ c ≤ 122) ∨ (48 ≤ c ∧ c ≤ 57) ∨ c = 45 ∨ (c < 45) ∨ (45 < c ∧ c < 48) ∨ (57 < c ∧ c < 97) ∨ 122 < c := by omega
      rcases hcase with ⟨h1, h2⟩ | ⟨h1, h2⟩ | h1 | h1 | ⟨h1, h2⟩ | ⟨h1, h2⟩ | h1
      · have HN := go (by rw [okc_eq]; have := HCC.out; simp; omega)
        clear go
        have q1 : ¬ c < 97 := by omega
        have q2 : ¬ 122 < c := by omega
        go_wp2
        go_round
        case rel => exact ⟨k + 1, by omega, by go_num, HN⟩
        case measure => simp [intOf]; omega
      · have HN := go (by rw [okc_eq]; have := HCC.out; simp; omega)
        clear go
        have q1 : c < 97 := by omega
        have q2 : ¬ c < 48 := by omega
        have q3 : ¬ 57 < c := by omega
        go_wp2
        go_round
        case rel => exact ⟨k + 1, by omega, by go_num, HN⟩
        case measure => simp [intOf]; omega
      · have HN := go (by rw [okc_eq]; have := HCC.out; simp; omega)
        clear go
        subst h1
        go_wp2
        go_round
        case rel => exact ⟨k + 1, by omega, by go_num, HN⟩
        case measure => simp [intOf]; omega
      all_goals
        have HF := Lib.hid (lab_bad hlt (by rw [okc_eq]; have := HCC.out; simp; omega))
        clear go
      · have q1 : c < 97 := by omega
        have q2 : c < 48 := by omega
        have q3 : c ≠ 45 := by omega
        go_wp2
        go_ret
        exact ⟨by rw [HF.out]; rfl, rfl⟩
      · have q1 : c < 97 := by omega
        have q3 : c ≠ 45 := by omega
        go_wp2
        go_ret
        exact ⟨by rw [HF.out]; rfl, rfl⟩
      · have q1 : ¬ c < 48 := by omega
        have q3 : c ≠ 45 := by omega
        go_wp2
        go_ret
        exact ⟨by rw [HF.out]; rfl, rfl⟩
      · have q0 : ¬ c < 97 := by omega
        have q1 : ¬ c < 48 := by omega
        have q2 : 57 < c := by omega
        have q3 : c ≠ 45 := by omega
        go_wp2
        go_ret
        exact ⟨by rw [HF.out]; rfl, rfl⟩
    · obtain rfl : k = s.size := by omega
      by_cases h0 : s.size = 0
      · have HF := Lib.hid (show lab s.data.toList = false by rw [list_nil.2 h0]; rfl)
        have e1 : s.toList.isEmpty = true := by rw [empty_iff, decide_eq_true (list_nil.2 h0)]
        have e2 : s.toList = [] := by rw [Lib.toList_data]; exact list_nil.2 h0
        go_wp2
        go_ret
        exact ⟨by rw [HF.out]; rfl, rfl⟩
      · have hl := lab_ends (fun j hj => HR.out j hj hj) (by omega)
        have e1 : s.toList.isEmpty = false := by rw [empty_iff, decide_eq_false (fun e => h0 (list_nil.1 e))]
        have e2 : ¬ s.toList = [] := by rw [Lib.toList_data]; exact fun e => h0 (list_nil.1 e)
        have hp : 0 < s.size := by omega
        obtain ⟨a, ha⟩ : ∃ a : Int, (s[0].toNat : Int) = a := ⟨_, rfl⟩
        obtain ⟨b, hb⟩ : ∃ b : Int, ((s[s.size - 1]'(by omega)).toNat : Int) = b := ⟨_, rfl⟩
        have hix : ∀ W, (Instr.index 9 (.string s) (.int .i64 ((s.size : Int) - 1))).run Tryz.prog W = .ok (.int .u8 b) W := fun W => by
          rw [run_index_string (P := Tryz.prog) W 9 s .i64 ((s.size : Int) - 1) Tryz.underlying9, dif_pos ⟨by omega, by omega⟩]
          have h9 : ((s.size : Int) - 1).toNat = s.size - 1 := by omega
          simp only [h9, hb]
        have HL := Lib.hid (show lab s.data.toList = (decide (a ≠ 45) && decide (b ≠ 45)) by
          rw [hl]
          have e1 : (s[0].toNat ≠ 45) ↔ a ≠ 45 := by omega
          have e2 : ((s[s.size - 1]'(by omega)).toNat ≠ 45) ↔ b ≠ 45 := by omega
          simp only [e1, e2])
        clear hl hb h0
        by_cases q1 : a = 45
        · subst q1
          go_wp2
          go_ret
          exact ⟨by rw [HL.out]; rfl, rfl⟩
        · by_cases q2 : b = 45
          · subst q2
            go_wp2
            go_ret
            exact ⟨by rw [HL.out]; simp, rfl⟩
          · go_wp2
            go_ret
            exact ⟨by rw [HL.out]; simp [q1, q2], rfl⟩

end Go.Proofs.YtghdaengkgiekaaGreatDoor.hw

/-
  Given for the seat's laws: how the library cuts texts, in the words of the plain functions. No program, no memory.
-/
namespace Go.Proofs.YtghdaengkgiekaaGreatDoor.hw
open hostp
set_option linter.unusedVariables false

theorem ix_free {c : UInt8} : ∀ {x : Str}, c ∉ x → Lib.indexByte x c = -1
  | [], _ => rfl
  | a :: x, h => by
    simp only [List.mem_cons, not_or] at h
    unfold Lib.indexByte
    rw [ix_free h.2]
    have : (a == c) = false := beq_eq_false_iff_ne.2 (fun e => h.1 e.symm)
    simp [this]
theorem ix_put {c : UInt8} : ∀ {x : Str} (r : Str), c ∉ x → Lib.indexByte (x ++ c :: r) c = x.length
  | [], r, _ => by simp [Lib.indexByte]
  | a :: x, r, h => by
    simp only [List.mem_cons, not_or] at h
    rw [List.cons_append]
    unfold Lib.indexByte
    rw [ix_put r h.2]
    have : (a == c) = false := beq_eq_false_iff_ne.2 (fun e => h.1 e.symm)
    simp [this]
theorem mem_parts {c : UInt8} : ∀ {l : Str}, c ∈ l → ∃ x r, l = x ++ c :: r ∧ c ∉ x
  | [], h => by simp at h
  | a :: l, h => by
    by_cases ha : a = c
    · subst ha; exact ⟨[], l, rfl, by simp⟩
    · have hl : c ∈ l := by
        rcases List.mem_cons.1 h with e | e
        · exact absurd e.symm ha
        · exact e
      obtain ⟨x, r, e, hx⟩ := mem_parts hl
      exact ⟨a :: x, r, by rw [e]; rfl, by simp only [List.mem_cons, not_or]; exact ⟨fun e => ha e.symm, hx⟩⟩
theorem ix_mem (c : UInt8) (l : Str) : decide (0 ≤ Lib.indexByte l c) = decide (c ∈ l) := by
  by_cases h : c ∈ l
  · obtain ⟨x, r, e, hx⟩ := mem_parts h
    rw [decide_eq_true h, e, ix_put r hx]
    exact decide_eq_true (by omega)
  · rw [decide_eq_false h, ix_free h]
    rfl
/-- the library's cutting, up to so many cuts -/
theorem splitK_cut (a : UInt8) : ∀ (k : Nat) (l : Str), Lib.splitK [a] 0 k l = if (cut a l).length ≤ k then cut a l else (cut a l).take k ++ [join a ((cut a l).drop k)]
  | 0, l => by
    have := List.length_pos_iff.2 (cut_ne a l)
    rw [if_neg (by omega), List.drop_zero, join_cut]
    rfl
  | k + 1, l => by
    unfold Lib.splitK
    by_cases h : a ∈ l
    · obtain ⟨x, r, e, hx⟩ := mem_parts h
      have hi : Lib.index l [a] = (x.length : Int) := by rw [Lib.index_one, e, ix_put r hx]
      rw [hi, if_neg (fun e => by have := beq_iff_eq.1 e; omega), Int.toNat_natCast, splitK_cut a k, e, cut_append r hx]
      have e1 : (x ++ a :: r).take (x.length + 0) = x := by simp
      have e2 : (x ++ a :: r).drop (x.length + [a].length) = r := by simp
      rw [e1, e2, List.length_cons]
      by_cases h2 : (cut a r).length ≤ k
      · rw [if_pos h2, if_pos (by omega)]
      · rw [if_neg h2, if_neg (by omega)]
        rfl
    · have hi : Lib.index l [a] = -1 := by rw [Lib.index_one, ix_free h]
      rw [hi, if_pos (by simp), cut_free h, if_pos (by simp)]
theorem cut_len (a : UInt8) : ∀ l : Str, (cut a l).length ≤ l.length + 1
  | [] => by simp [cut]
  | c :: r => by
    have ih := cut_len a r
    obtain ⟨x, t, he⟩ : ∃ x t, cut a r = x :: t := by
      cases h : cut a r with
      | nil => exact absurd h (cut_ne a r)
      | cons x t => exact ⟨x, t, rfl⟩
    by_cases hc : c = a
    · subst hc
      rw [cut_at, List.length_cons, List.length_cons]
      omega
    · rw [cut_other hc r he, List.length_cons]
      rw [he, List.length_cons] at ih
      rw [List.length_cons]
      omega
/-- at most n pieces, the last one whatever is left -/
def upto (a : UInt8) (n : Nat) (l : Str) : List Str := if (cut a l).length ≤ n then cut a l else (cut a l).take (n - 1) ++ [join a ((cut a l).drop (n - 1))]
theorem splitK_upto (a : UInt8) {n : Nat} (hn : 1 ≤ n) (l : Str) : Lib.splitK [a] 0 (min n (l.length + 1) - 1) l = upto a n l := by
  have h1 := cut_len a l
  have h0 := List.length_pos_iff.2 (cut_ne a l)
  rw [splitK_cut]
  unfold upto
  have last : ∀ k, (cut a l).length = k + 1 → (cut a l).take k ++ [join a ((cut a l).drop k)] = cut a l := fun k hk => by
    have : (cut a l).drop k = [(cut a l)[k]] := by
      rw [List.drop_eq_getElem_cons (by omega), List.drop_eq_nil_of_le (by omega)]
    have h := List.take_append_drop k (cut a l)
    rw [this] at h ⊢
    exact h
  by_cases h2 : n ≤ l.length + 1
  · rw [Nat.min_eq_left h2]
    by_cases h3 : (cut a l).length ≤ n
    · rw [if_pos h3]
      by_cases h4 : (cut a l).length ≤ n - 1
      · rw [if_pos h4]
      · rw [if_neg h4]
        exact last (n - 1) (by omega)
    · rw [if_neg h3, if_neg (by omega)]
  · rw [Nat.min_eq_right (by omega), if_pos (show (cut a l).length ≤ n by omega)]
    by_cases h4 : (cut a l).length ≤ l.length + 1 - 1
    · rw [if_pos h4]
    · rw [if_neg h4]
      exact last (l.length + 1 - 1) (by omega)
theorem upto_len (a : UInt8) {n : Nat} (hn : 1 ≤ n) (l : Str) : (upto a n l).length = min n (cut a l).length := by
  unfold upto
  split
  · omega
  · simp; omega
theorem upto_last {a : UInt8} {n : Nat} (hn : 1 ≤ n) {l : Str} (h : n < (cut a l).length) : ∃ x, (upto a n l)[n - 1]? = some x ∧ a ∈ x := by
  unfold upto
  rw [if_neg (by omega)]
  refine ⟨join a ((cut a l).drop (n - 1)), ?_, ?_⟩
  · rw [List.getElem?_append_right (by rw [List.length_take]; omega), List.length_take, Nat.min_eq_left (by omega), Nat.sub_self]
    rfl
  · rw [List.drop_eq_getElem_cons (by omega), show n - 1 + 1 = n by omega, List.drop_eq_getElem_cons (by omega)]
    exact mem_join
theorem upto_le {a : UInt8} {n : Nat} {l : Str} (h : (cut a l).length ≤ n) : upto a n l = cut a l := if_pos h
theorem piece_size {a : UInt8} {n : Nat} {l : Str} : ∀ x ∈ upto a n l, x.length ≤ l.length := by
  have hp : ∀ x ∈ cut a l, x.length ≤ l.length := by
    have : ∀ (l : Str), ∀ x ∈ cut a l, x.length ≤ l.length := by
      intro l
      induction l with
      | nil => intro x hx; simp [cut] at hx; subst hx; simp
      | cons c r ih =>
        intro x hx
        obtain ⟨y, t, he⟩ : ∃ x t, cut a r = x :: t := by
          cases h : cut a r with
          | nil => exact absurd h (cut_ne a r)
          | cons x t => exact ⟨x, t, rfl⟩
        by_cases hc : c = a
        · subst hc
          rw [cut_at] at hx
          rcases List.mem_cons.1 hx with rfl | hx
          · simp
          · have := ih x hx; simp; omega
        · rw [cut_other hc r he] at hx
          rcases List.mem_cons.1 hx with rfl | hx
          · have := ih y (by rw [he]; simp); simp; omega
          · have := ih x (by rw [he]; simp [hx]); simp; omega
    exact this l
  have hj : ∀ k, (join a ((cut a l).drop k)).length ≤ l.length := by
    have : ∀ (m : List Str) (k : Nat), (join a (m.drop k)).length ≤ (join a m).length := by
      intro m
      induction m with
      | nil => intro k; simp
      | cons y m ih =>
        intro k
        cases k with
        | zero => simp
        | succ k =>
          have h1 := ih k
          rw [List.drop_succ_cons]
          cases m with
          | nil => simp [join]
          | cons z m =>
            show _ ≤ (y ++ a :: join a (z :: m)).length
            rw [List.length_append, List.length_cons]
            omega
    intro k
    have h := this (cut a l) k
    rwa [join_cut] at h
  intro x hx
  unfold upto at hx
  split at hx
  · exact hp x hx
  · rcases List.mem_append.1 hx with hx | hx
    · exact hp x (List.mem_of_mem_take hx)
    · obtain rfl : x = _ := by simpa using hx
      exact hj _

/-- the library's taking out of each such byte -/
theorem repl_none (c : UInt8) : ∀ (k : Nat) (l : Str), l.count c = k → Lib.replaceK [c] [] k l = l.filter (fun b => decide (b ≠ c))
  | 0, l, h => by
    show l = _
    rw [List.count_eq_zero] at h
    exact (List.filter_eq_self.2 fun b hb => by simp; intro e; exact h (e ▸ hb)).symm
  | k + 1, l, h => by
    have hm : c ∈ l := List.count_pos_iff.1 (by omega)
    obtain ⟨x, r, rfl, hx⟩ := mem_parts hm
    have hi : Lib.index (x ++ c :: r) [c] = (x.length : Int) := by rw [Lib.index_one, ix_put r hx]
    rw [Lib.replaceK_hit _ _ _ _ _ hi]
    have hx0 : x.count c = 0 := List.count_eq_zero.2 hx
    have hr : r.count c = k := by
      rw [List.count_append, hx0, List.count_cons_self] at h
      omega
    have e1 : (x ++ c :: r).take x.length = x := by simp
    have e2 : (x ++ c :: r).drop (x.length + [c].length) = r := by simp
    rw [e1, e2, repl_none c k r hr, List.append_nil, List.filter_append, List.filter_cons, if_neg (by simp)]
    congr 1
    exact (List.filter_eq_self.2 fun b hb => by simp; intro e; exact hx (e ▸ hb)).symm
theorem repl_all (c : UInt8) (l : Str) : Lib.replaceAll l [c] [] = l.filter (fun b => decide (b ≠ c)) := by
  unfold Lib.replaceAll Lib.replace
  rw [if_neg (by simp)]
  unfold Lib.replaceNum
  rw [if_pos (.inl (by omega)), Lib.count_one]
  exact repl_none c _ l rfl

/-- digits and points alone -/
theorem filter_dd (l : Str) : (l.filter (fun b => decide (b ≠ 46))).all dig = l.all dd := by
  induction l with
  | nil => rfl
  | cons c l ih =>
    rw [List.filter_cons]
    by_cases h : c = 46
    · subst h
      rw [if_neg (by simp), ih, List.all_cons]
      rfl
    · rw [if_pos (by simp [h]), List.all_cons, List.all_cons, ih]
      congr 1
      unfold dd
      rw [decide_eq_false h, Bool.or_false]

end Go.Proofs.YtghdaengkgiekaaGreatDoor.hw
