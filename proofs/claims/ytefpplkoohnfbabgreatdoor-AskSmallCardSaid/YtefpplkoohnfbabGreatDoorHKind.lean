/-
  Given for the seat's laws: the contracts of kindOf and parseV4. No condition but what two variables of the library hold.
-/
import Derived.Test.YtefpplkoohnfbabGreatDoorHSplitPure
import Derived.Test.YtefpplkoohnfbabGreatDoorHV4
import Derived.Test.YtefpplkoohnfbabGreatDoorParse
namespace Go.Proofs.YtefpplkoohnfbabGreatDoor.hw
open Go.RowKit mem hostp
set_option linter.unusedVariables false

def kindF (l : Str) : Int := if (58 : UInt8) ∈ l then 2 else if l.all dd = true then 1 else 3

set_option maxHeartbeats 1000000 in
theorem kindOf_any (s : ByteArray) (hs : s.size ≤ 3000) (w : World) (he : Env w) : Calls Tryz.prog 28 #[.string s] w (Gives (.int .u8 (kindF s.data.toList)) w) := by
  obtain ⟨m, hm⟩ := he.maxlen
  have hc := Tryz.strings_Contains_one s 58 w
  rw [ix_mem] at hc
  have HC := Lib.hid hc
  by_cases h : (58 : UInt8) ∈ s.data.toList
  · rw [decide_eq_true h] at HC
    have HF := Lib.hid (show kindF s.data.toList = 2 by unfold kindF; rw [if_pos h])
    clear hc h
    go_enter Tryz.func28, Tryz.ntmps28
    go_wp2_with fail
    refine HC.out.mono ?_
    rintro e w' ⟨rfl, rfl⟩
    go_wp2
    go_ret
    exact ⟨by rw [HF.out]; rfl, Below.refl _ _⟩
  · rw [decide_eq_false h] at HC
    have hr := Tryz.strings_ReplaceAll s ⟨#[46]⟩ ⟨#[]⟩ m w (by omega) hm (by decide) (by
      show s.size + _ * 0 ≤ _
      omega)
    have hr' : Calls Tryz.prog 41 #[.string s, .string ⟨#[46]⟩, .string ⟨#[]⟩] w (Gives (.string (S (s.data.toList.filter (fun b => decide (b ≠ 46))))) w) := by
      have e : Lib.replaceAll s.data.toList (⟨#[46]⟩ : ByteArray).data.toList (⟨#[]⟩ : ByteArray).data.toList = s.data.toList.filter (fun b => decide (b ≠ 46)) := repl_all 46 _
      rw [e] at hr
      exact hr
    have hfl : (S (s.data.toList.filter (fun b => decide (b ≠ 46)))).size ≤ 1000000000 := by
      rw [S_size]
      have := List.length_filter_le (fun b => decide (b ≠ (46 : UInt8))) s.data.toList
      rw [list_len] at this
      omega
    have hn := fun W => isNumber_any _ hfl W
    rw [S_list, filter_dd] at hn
    have HR := Lib.hid hr'
    have HN := Lib.hid hn
    have HF := Lib.hid (show kindF s.data.toList = if s.data.toList.all dd = true then 1 else 3 by unfold kindF; rw [if_neg h])
    generalize S (s.data.toList.filter (fun b => decide (b ≠ 46))) = x at *
    obtain ⟨b, hb⟩ : ∃ b, b = s.data.toList.all dd := ⟨_, rfl⟩
    rw [← hb] at HN HF
    clear hc h hr hr' hfl hn hb hm he
    go_enter Tryz.func28, Tryz.ntmps28
    go_wp2_with fail
    refine HC.out.mono ?_
    rintro e w' ⟨rfl, rfl⟩
    go_wp2_with fail
    refine HR.out.mono ?_
    rintro e w1 ⟨rfl, hb1⟩
    have HB1 := Lib.hid hb1
    clear hb1
    go_wp2_with fail
    refine (HN.out _).mono ?_
    rintro e w2 ⟨rfl, hb2⟩
    have HB2 := Lib.hid (HB1.out.trans (hb2.mono HB1.out.size))
    clear hb2
    cases b
    · go_wp2
      go_ret
      exact ⟨by rw [HF.out]; rfl, HB2.out⟩
    · go_wp2
      go_ret
      exact ⟨by rw [HF.out]; rfl, HB2.out⟩

/-! ### the pieces of a text, in memory -/
theorem splitN_any (s : ByteArray) (hs : s.size ≤ 3000) (a : UInt8) (n : Nat) (hn : 1 ≤ n) (hn2 : n ≤ 1000) (w : World) (he : Env w) :
    Calls Tryz.prog 42 #[.string s, .string ⟨#[a]⟩, .int .i64 (n : Int)] w fun e w' => ∃ g cap, e = .returned (.slice (some ⟨g, 0, none⟩) (upto a n s.data.toList).length cap) ∧ Below w.heap.size w w' ∧ w.heap.size ≤ g ∧ g < w'.heap.size ∧ (upto a n s.data.toList).length ≤ cap ∧
      ∀ j x, (upto a n s.data.toList)[j]? = some x → w'.cell? ⟨g, j, none⟩ = some (.string (S x)) := by
  obtain ⟨m, hm⟩ := he.maxlen
  refine (Tryz.strings_SplitN s ⟨#[a]⟩ n m w (by omega) hm (by show 1 ≤ 1; omega) hn (by omega)).mono ?_
  rintro e w' ⟨rfl, hw'⟩
  have hd := Lib.splitB_data ⟨#[a]⟩ 0 (min n (s.size + 1) - 1) s
  rw [show (⟨#[a]⟩ : ByteArray).data.toList = [a] from rfl, ← list_len s, splitK_upto a hn] at hd
  rw [list_len] at hd
  obtain ⟨B, hB⟩ : ∃ B, B = Lib.splitB ⟨#[a]⟩ 0 (min n (s.size + 1) - 1) s := ⟨_, rfl⟩
  have hle := Lib.splitB_length_le ⟨#[a]⟩ 0 (min n (s.size + 1) - 1) s
  rw [← hB] at hd hle hw' ⊢
  have hlen : B.length = (upto a n s.data.toList).length := by rw [← hd, List.length_map]
  rw [hlen]
  refine ⟨w.heap.size, _, rfl, ?_, Nat.le_refl _, ?_, by omega, fun j x hx => ?_⟩
  · rw [hw']; exact (Below.refl _ w).alloc (Nat.le_refl _) _
  · rw [hw']; simp
  · rw [hw']
    rw [← hd, List.getElem?_map] at hx
    obtain ⟨y, hy, rfl⟩ := Option.map_eq_some_iff.1 hx
    rw [S_data, (Lies.new w _ _).cell j]
    unfold Lib.cellsOf
    rw [List.getElem?_toArray, List.getElem?_append_left (by rw [List.length_map]; exact (List.getElem?_eq_some_iff.1 hy).1), List.getElem?_map, hy]
    rfl

/-! ### decimals, as the program reads them -/
theorem val_dv : ∀ {l : Str}, (∀ c ∈ l, 48 ≤ c.toNat ∧ c.toNat ≤ 57) → ∀ a : Nat, vl 10 l a = some (l.foldl (fun a c => a * 10 + (c.toNat - 48)) a)
  | [], _, a => rfl
  | c :: l, h, a => by
    have hc := h c (by simp)
    rw [vl_cons, dv_dig hc]
    dsimp only
    rw [if_pos (by omega)]
    exact val_dv (fun d hd => h d (by simp [hd])) _
theorem canon_nm {l : Str} (h : num.Canon l) : l = nm 10 (num.dv l) := by
  have hv := val_dv h.2.1 0
  have : ∀ {l : Str}, l ≠ [] → (∀ c ∈ l, 48 ≤ c.toNat ∧ c.toNat ≤ 57) → (l.length = 1 ∨ l.head? ≠ some 48) → l = nm 10 (num.dv l) := by
    intro l
    induction hk : l.length using Nat.strongRecOn generalizing l with
    | ind k ih =>
      intro hne hd h1
      obtain ⟨r, c, hrc⟩ : ∃ r c, l = r ++ [c] := by
        rcases List.eq_nil_or_concat l with e | ⟨r, c, e⟩
        · exact absurd e hne
        · exact ⟨r, c, by rw [e]; simp⟩
      subst hrc
      have hc := hd c (by simp)
      rw [num.dv_snoc]
      have hdg : dg (c.toNat - 48) = c := by
        apply UInt8.toNat_inj.1
        rw [dg_low (by omega)]
        omega
      by_cases hr : r = []
      · subst hr
        show [c] = nm 10 (0 * 10 + (c.toNat - 48))
        rw [Nat.zero_mul, Nat.zero_add, nm_small (by omega), hdg]
      · have hh : r.head? ≠ some 48 := by
          rcases h1 with h1 | h1
          · have h1' := hk.trans h1
            rw [List.length_append, List.length_singleton] at h1'
            have := List.length_pos_iff.2 hr
            omega
          · intro e
            apply h1
            cases r with
            | nil => exact absurd rfl hr
            | cons x r => simpa using e
        have ihr := ih r.length (by rw [← hk]; simp) rfl hr (fun d hd' => hd d (by simp [hd'])) (.inr hh)
        have hpos : num.dv r ≠ 0 := by
          intro e
          rw [e, nm_small (by omega)] at ihr
          rw [ihr] at hh
          exact hh rfl
        rw [nm_step (by omega) (by omega), show (num.dv r * 10 + (c.toNat - 48)) / 10 = num.dv r by omega, show (num.dv r * 10 + (c.toNat - 48)) % 10 = c.toNat - 48 by omega, hdg, ← ihr]
  exact this h.1 h.2.1 h.2.2
theorem nm_canon (n : Nat) : num.Canon (nm 10 n) ∧ num.dv (nm 10 n) = n := by
  have hd := nm10_free n
  have hv := val_dv hd 0
  rw [vl_nm (by omega) (by omega)] at hv
  refine ⟨⟨nm_ne (by omega) n, hd, ?_⟩, (Option.some.inj hv).symm⟩
  have : ∀ n, (nm 10 n).length = 1 ∨ ∃ c r, nm 10 n = c :: r ∧ c ≠ 48 := by
    intro n
    induction n using Nat.strongRecOn with
    | ind n ih =>
      by_cases h : n < 10
      · exact .inl (by rw [nm_small h]; rfl)
      · refine .inr ?_
        rw [nm_step (by omega) h]
        rcases ih (n / 10) (by omega) with h1 | ⟨c, r, h1, h2⟩
        · by_cases h3 : n / 10 < 10
          · rw [nm_small h3]
            refine ⟨_, _, rfl, fun e => ?_⟩
            have := congrArg UInt8.toNat e
            rw [dg_low h3] at this
            have e48 : (48 : UInt8).toNat = 48 := rfl
            have h4 : 1 ≤ n / 10 := by omega
            rw [e48] at this
            omega
          · rw [nm_step (by omega) h3, List.length_append, List.length_singleton] at h1
            have := List.length_pos_iff.2 (nm_ne (b := 10) (by omega) (n / 10 / 10))
            omega
        · exact ⟨c, _, by rw [h1]; rfl, h2⟩
  rcases this n with h | ⟨c, r, h1, h2⟩
  · exact .inl h
  · exact .inr (by rw [h1]; simpa using h2)
/-- the program's number within bounds is the document's -/
theorem parseF_dec {l : Str} {m : Nat} (hm : m ≤ 999999) (a : Int) : num.parseF l a (m : Int) = match dec l m with | some n => if a ≤ (n : Int) then ((n : Int), 0) else (0, 6) | none => (0, 6) := by
  unfold num.parseF
  cases hd : dec l m with
  | some n =>
    obtain ⟨h1, rfl⟩ := (dec_iff hm).1 hd
    obtain ⟨h2, h3⟩ := nm_canon n
    rw [h3]
    dsimp only
    by_cases h : a ≤ (n : Int)
    · rw [if_pos ⟨h2, h, by omega⟩, if_pos h]
    · rw [if_neg (fun e => h e.2.1), if_neg h]
  | none =>
    rw [if_neg]
    rintro ⟨h1, h2, h3⟩
    have := (dec_iff (s := l) (n := num.dv l) hm).2 ⟨by omega, canon_nm h1⟩
    rw [hd] at this
    cases this

end Go.Proofs.YtefpplkoohnfbabGreatDoor.hw
