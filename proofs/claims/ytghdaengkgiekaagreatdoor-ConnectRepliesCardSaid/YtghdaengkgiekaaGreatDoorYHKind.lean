/-
  Given for the seat's laws: the contracts of kindOf and parseV4. No condition but what two variables of the library hold.
-/
import Derived.Test.YtghdaengkgiekaaGreatDoorYHLab
import Derived.Test.YtghdaengkgiekaaGreatDoorYHV4
import Derived.Test.YtghdaengkgiekaaGreatDoorYNumPure
namespace Go.Proofs.YtghdaengkgiekaaGreatDoor.hw
open Go.RowKit mem hostp
set_option linter.unusedVariables false

def kindF (l : Str) : Int := if (58 : UInt8) ∈ l then 2 else if l.all dd = true then 1 else 3

set_option maxHeartbeats 1000000 in
theorem kindOf_any (s : ByteArray) (hs : s.size ≤ 3000) (w : World) (he : Env w) : Calls Tryz.prog 129 #[.string s] w (Gives (.int .u8 (kindF s.data.toList)) w) := by
  obtain ⟨m, hm⟩ := he.maxlen
  have hc := Tryz.strings_Contains_one s 58 w
  rw [ix_mem] at hc
  have HC := Lib.hid hc
  by_cases h : (58 : UInt8) ∈ s.data.toList
  · rw [decide_eq_true h] at HC
    have HF := Lib.hid (show kindF s.data.toList = 2 by unfold kindF; rw [if_pos h])
    clear hc h
    go_enter Tryz.func129, Tryz.ntmps129
    go_wp2_with fail
    refine HC.out.mono ?_
    rintro e w' ⟨rfl, rfl⟩
    go_wp2
    go_ret
    exact ⟨by rw [HF.out]; rfl, Below.refl _ _⟩
  · rw [decide_eq_false h] at HC
    have hr := Tryz.strings_ReplaceAll s ⟨#[46]⟩ ⟨#[]⟩ m w (by omega) hm (by decide) (by
      show s.size + _ * 0 ≤ _
      omega)
    have hr' : Calls Tryz.prog 146 #[.string s, .string ⟨#[46]⟩, .string ⟨#[]⟩] w (Gives (.string (S (s.data.toList.filter (fun b => decide (b ≠ 46))))) w) := by
      have e : Lib.replaceAll s.data.toList (⟨#[46]⟩ : ByteArray).data.toList (⟨#[]⟩ : ByteArray).data.toList = s.data.toList.filter (fun b => decide (b ≠ 46)) := repl_all 46 _
      rw [e] at hr
      exact hr
    have hfl : (S (s.data.toList.filter (fun b => decide (b ≠ 46)))).size ≤ 1000000000 := by
      rw [S_size]
      have := List.length_filter_le (fun b => decide (b ≠ (46 : UInt8))) s.data.toList
      rw [list_len] at this
      omega
    have hn := fun W => isNumber_any _ hfl W
    rw [S_list, filter_dd] at hn
    have HR := Lib.hid hr'
    have HN := Lib.hid hn
    have HF := Lib.hid (show kindF s.data.toList = if s.data.toList.all dd = true then 1 else 3 by unfold kindF; rw [if_neg h])
    generalize S (s.data.toList.filter (fun b => decide (b ≠ 46))) = x at *
    obtain ⟨b, hb⟩ : ∃ b, b = s.data.toList.all dd := ⟨_, rfl⟩
    rw [← hb] at HN HF
    clear hc h hr hr' hfl hn hb hm he
    go_enter Tryz.func129, Tryz.ntmps129
    go_wp2_with fail
    refine HC.out.mono ?_
    rintro e w' ⟨rfl, rfl⟩
    go_wp2_with fail
    refine HR.out.mono ?_
    rintro e w1 ⟨rfl, hb1⟩
    have HB1 := Lib.hid hb1
    clear hb1
    go_wp2_with fail
    refine (HN.out _).mono ?_
    rintro e w2 ⟨rfl, hb2⟩
    have HB2 := Lib.hid (HB1.out.trans (hb2.mono HB1.out.size))
    clear hb2
    cases b
    · go_wp2
      go_ret
      exact ⟨by rw [HF.out]; rfl, HB2.out⟩
    · go_wp2
      go_ret
      exact ⟨by rw [HF.out]; rfl, HB2.out⟩

/-! ### the pieces of a text, in memory -/
theorem splitN_any (s : ByteArray) (hs : s.size ≤ 3000) (a : UInt8) (n : Nat) (hn : 1 ≤ n) (hn2 : n ≤ 1000) (w : World) (he : Env w) :
    Calls Tryz.prog 147 #[.string s, .string ⟨#[a]⟩, .int .i64 (n : Int)] w fun e w' => ∃ g cap, e = .returned (.slice (some ⟨g, 0, none⟩) (upto a n s.data.toList).length cap) ∧ Below w.heap.size w w' ∧ w.heap.size ≤ g ∧ g < w'.heap.size ∧ (upto a n s.data.toList).length ≤ cap ∧
      ∀ j x, (upto a n s.data.toList)[j]? = some x → w'.cell? ⟨g, j, none⟩ = some (.string (S x)) := by
  obtain ⟨m, hm⟩ := he.maxlen
  refine (Tryz.strings_SplitN s ⟨#[a]⟩ n m w (by omega) hm (by show 1 ≤ 1; omega) hn (by omega)).mono ?_
  rintro e w' ⟨rfl, hw'⟩
  have hd := Lib.splitB_data ⟨#[a]⟩ 0 (min n (s.size + 1) - 1) s
  rw [show (⟨#[a]⟩ : ByteArray).data.toList = [a] from rfl, ← list_len s, splitK_upto a hn] at hd
  rw [list_len] at hd
  obtain ⟨B, hB⟩ : ∃ B, B = Lib.splitB ⟨#[a]⟩ 0 (min n (s.size + 1) - 1) s := ⟨_, rfl⟩
  have hle := Lib.splitB_length_le ⟨#[a]⟩ 0 (min n (s.size + 1) - 1) s
  rw [← hB] at hd hle hw' ⊢
  have hlen : B.length = (upto a n s.data.toList).length := by rw [← hd, List.length_map]
  rw [hlen]
  refine ⟨w.heap.size, _, rfl, ?_, Nat.le_refl _, ?_, by omega, fun j x hx => ?_⟩
  · rw [hw']; exact (Below.refl _ w).alloc (Nat.le_refl _) _
  · rw [hw']; simp
  · rw [hw']
    rw [← hd, List.getElem?_map] at hx
    obtain ⟨y, hy, rfl⟩ := Option.map_eq_some_iff.1 hx
    rw [S_data, (Lies.new w _ _).cell j]
    unfold Lib.cellsOf
    rw [List.getElem?_toArray, List.getElem?_append_left (by rw [List.length_map]; exact (List.getElem?_eq_some_iff.1 hy).1), List.getElem?_map, hy]
    rfl

/-! ### decimals, as the program reads them -/
theorem val_dv : ∀ {l : Str}, (∀ c ∈ l, 48 ≤ c.toNat ∧ c.toNat ≤ 57) → ∀ a : Nat, vl 10 l a = some (l.foldl (fun a c => a * 10 + (c.toNat - 48)) a)
  | [], _, a => rfl
  | c :: l, h, a => by
    have hc := h c (by simp)
    rw [vl_cons, dv_dig hc]
    dsimp only
    rw [if_pos (by omega)]
    exact val_dv (fun d hd => h d (by simp [hd])) _
theorem canon_nm {l : Str} (h : num.Canon l) : l = nm 10 (num.dv l) := by
  have hv := val_dv h.2.1 0
  have : ∀ {l : Str}, l ≠ [] → (∀ c ∈ l, 48 ≤ c.toNat ∧ c.toNat ≤ 57) → (l.length = 1 ∨ l.head? ≠ some 48) → l = nm 10 (num.dv l) := by
    intro l
    induction hk : l.length using Nat.strongRecOn generalizing l with
    | ind k ih =>
      intro hne hd h1
      obtain ⟨r, c, hrc⟩ : ∃ r c, l = r ++ [c] := by
        rcases List.eq_nil_or_concat l with e | ⟨r, c, e⟩
        · exact absurd e hne
        · exact ⟨r, c, by rw [e]; simp⟩
      subst hrc
      have hc := hd c (by simp)
      rw [num.dv_snoc]
      have hdg : dg (c.toNat - 48) = c := by
        apply UInt8.toNat_inj.1
        rw [dg_low (by omega)]
        omega
      by_cases hr : r = []
      · subst hr
        show [c] = nm 10 (0 * 10 + (c.toNat - 48))
        rw [Nat.zero_mul, Nat.zero_add, nm_small (by omega), hdg]
      · have hh : r.head? ≠ some 48 := by
          rcases h1 with h1 | h1
          · have h1' := hk.trans h1
            rw [List.length_append, List.length_singleton] at h1'
            have := List.length_pos_iff.2 hr
            omega
          · intro e
            apply h1
            cases r with
            | nil => exact absurd rfl hr
            | cons x r => simpa using e
        have ihr := ih r.length (by rw [← hk]; simp) rfl hr (fun d hd' => hd d (by simp [hd'])) (.inr hh)
        have hpos : num.dv r ≠ 0 := by
          intro e
          rw [e, nm_small (by omega)] at ihr
          rw [ihr] at hh
          exact hh rfl
        rw [nm_step (by omega) (by omega), show (num.dv r * 10 + (c.toNat - 48)) / 10 = num.dv r by omega, show (num.dv r * 10 + (c.toNat - 48)) % 10 = c.toNat - 48 by omega, hdg, ← ihr]
  exact this h.1 h.2.1 h.2.2
theorem nm_canon (n : Nat) : num.Canon (nm 10 n) ∧ num.dv (nm 10 n) = n := by
  have hd := nm10_free n
  have hv := val_dv hd 0
  rw [vl_nm (by omega) (by omega)] at hv
  refine ⟨⟨nm_ne (by omega) n, hd, ?_⟩, (Option.some.inj hv).symm⟩
  have : ∀ n, (nm 10 n).length = 1 ∨ ∃ c r, nm 10 n = c :: r ∧ c ≠ 48 := by
    intro n
    induction n using Nat.strongRecOn with
    | ind n ih =>
      by_cases h : n < 10
      · exact .inl (by rw [nm_small h]; rfl)
      · refine .inr ?_
        rw [nm_step (by omega) h]
        rcases ih (n / 10) (by omega) with h1 | ⟨c, r, h1, h2⟩
        · by_cases h3 : n / 10 < 10
          · rw [nm_small h3]
            refine ⟨_, _, rfl, fun e => ?_⟩
            have := congrArg UInt8.toNat e
            rw [dg_low h3] at this
            have e48 : (48 : UInt8).toNat = 48 := rfl
            have h4 : 1 ≤ n / 10 := by omega
            rw [e48] at this
            omega
          · rw [nm_step (by omega) h3, List.length_append, List.length_singleton] at h1
            have := List.length_pos_iff.2 (nm_ne (b := 10) (by omega) (n / 10 / 10))
            omega
        · exact ⟨c, _, by rw [h1]; rfl, h2⟩
  rcases this n with h | ⟨c, r, h1, h2⟩
  · exact .inl h
  · exact .inr (by rw [h1]; simpa using h2)
/-- the program's number within bounds is the document's -/
theorem parseF_dec {l : Str} {m : Nat} (hm : m ≤ 999999) (a : Int) : num.parseF l a (m : Int) = match dec l m with | some n => if a ≤ (n : Int) then ((n : Int), 0) else (0, 6) | none => (0, 6) := by
  unfold num.parseF
  cases hd : dec l m with
  | some n =>
    obtain ⟨h1, rfl⟩ := (dec_iff hm).1 hd
    obtain ⟨h2, h3⟩ := nm_canon n
    rw [h3]
    dsimp only
    by_cases h : a ≤ (n : Int)
    · rw [if_pos ⟨h2, h, by omega⟩, if_pos h]
    · rw [if_neg (fun e => h e.2.1), if_neg h]
  | none =>
    rw [if_neg]
    rintro ⟨h1, h2, h3⟩
    have := (dec_iff (s := l) (n := num.dv l) hm).2 ⟨by omega, canon_nm h1⟩
    rw [hd] at this
    cases this

end Go.Proofs.YtghdaengkgiekaaGreatDoor.hw

/-
  Given for the seat's laws: the contract of parseV4. No condition but what two variables of the library hold.
-/
namespace Go.Proofs.YtghdaengkgiekaaGreatDoor.hw
open Go.RowKit mem hostp
set_option linter.unusedVariables false

/-! ### decimals -/
theorem dec_le {s : Str} {m n : Nat} (hm : m ≤ 999999) (h : dec s m = some n) : n ≤ m := ((dec_iff hm).1 h).1
theorem parse_dec_some (s : ByteArray) (hs : s.size ≤ 3000) {n : Nat} (h : dec s.data.toList 255 = some n) (w : World) : Calls Tryz.prog 110 #[.string s, .int .i64 0, .int .i64 255] w fun e w' => e = .returned (.tuple #[.int .i64 (n : Int), .int .i64 0]) ∧ w = w' := by
  have hp := parseF_dec (l := s.data.toList) (m := 255) (by omega) 0
  rw [h] at hp
  dsimp only at hp
  rw [if_pos (by omega)] at hp
  refine (parse.parse_in s 0 255 hs (by omega) (by omega) (by omega) w).mono ?_
  rintro e w' ⟨rfl, rfl⟩
  rw [show ((255 : Nat) : Int) = 255 from rfl] at hp
  rw [hp]
  exact ⟨rfl, rfl⟩
theorem parse_dec_none (s : ByteArray) (hs : s.size ≤ 3000) (h : dec s.data.toList 255 = none) (w : World) : Calls Tryz.prog 110 #[.string s, .int .i64 0, .int .i64 255] w fun e w' => e = .returned (.tuple #[.int .i64 0, .int .i64 6]) ∧ w = w' := by
  have hp := parseF_dec (l := s.data.toList) (m := 255) (by omega) 0
  rw [h] at hp
  dsimp only at hp
  refine (parse.parse_in s 0 255 hs (by omega) (by omega) (by omega) w).mono ?_
  rintro e w' ⟨rfl, rfl⟩
  rw [show ((255 : Nat) : Int) = 255 from rfl] at hp
  rw [hp]
  exact ⟨rfl, rfl⟩

/-! ### four of them -/
theorem decs_snoc {l : List Str} {x : Str} : decs (l ++ [x]) = match decs l with
    | none => none
    | some a => match dec x 255 with
      | none => none
      | some v => some (a ++ [v]) := by
  rw [decs_append]
  cases decs l with
  | none => rfl
  | some a =>
    show (match decs [x] with | none => none | some b => some (a ++ b)) = _
    unfold decs
    cases dec x 255 with
    | none => rfl
    | some v => rfl
theorem decs_dead {l m : List Str} (h : decs l = none) : decs (l ++ m) = none := by rw [decs_append, h]
theorem decs_len {l : List Str} {b : List Nat} (h : decs l = some b) : b.length = l.length := by
  have := (decs_iff.1 h).2
  rw [this, List.length_map]
theorem dec_dot {x : Str} {m : Nat} (hm : m ≤ 999999) (h : (46 : UInt8) ∈ x) : dec x m = none := by
  cases hd : dec x m with
  | none => rfl
  | some n =>
    have := ((dec_iff hm).1 hd).2
    rw [this] at h
    exact absurd h (not_mem_nm10 n (.inl (by decide)))
theorem four_upto (l : Str) : four l = if (upto 46 4 l).length = 4 then decs (upto 46 4 l) else none := by
  unfold four
  rcases Nat.lt_trichotomy (cut 46 l).length 4 with h | h | h
  · rw [upto_le (by omega)]
  · rw [upto_le (by omega)]
  · rw [if_neg (by omega)]
    have hl : (upto 46 4 l).length = 4 := by rw [upto_len 46 (by omega)]; omega
    rw [if_pos hl]
    obtain ⟨x, hx, hm⟩ := upto_last (a := 46) (n := 4) (by omega) h
    have hx' : (upto 46 4 l)[3]? = some x := hx
    have : upto 46 4 l = (upto 46 4 l).take 3 ++ [x] := by
      conv => lhs; rw [← List.take_append_drop 3 (upto 46 4 l)]
      rw [List.drop_eq_getElem_cons (by omega), List.drop_eq_nil_of_le (by omega)]
      congr 2
      rw [List.getElem?_eq_getElem (by omega)] at hx'
      exact Option.some.inj hx'
    rw [this, decs_snoc]
    cases decs ((upto 46 4 l).take 3) with
    | none => rfl
    | some a =>
      show none = match dec x 255 with | none => none | some v => some (a ++ [v])
      rw [dec_dot (by omega) hm]

/-- the cells of an array of so many bytes, when the first ones are written -/
def bcells (m : Nat) (b : List Nat) : Array Value := (b.map (fun (n : Nat) => Value.int .u8 (n : Int)) ++ List.replicate (m - b.length) (Value.int .u8 0)).toArray
theorem bcells_size {m : Nat} {b : List Nat} (h : b.length ≤ m) : (bcells m b).size = m := by unfold bcells; simp; omega
theorem bcells_step {m : Nat} {b : List Nat} (h : b.length < m) (n : Nat) : (bcells m b).setIfInBounds b.length (.int .u8 (n : Int)) = bcells m (b ++ [n]) := by
  unfold bcells
  obtain ⟨k, hk⟩ : ∃ k, m - b.length = k + 1 := ⟨m - b.length - 1, by omega⟩
  have hk2 : m - (b ++ [n]).length = k := by simp; omega
  rw [hk, hk2, List.setIfInBounds_toArray, List.map_append, List.replicate_succ]
  congr 1
  rw [List.set_append_right _ _ (by simp)]
  simp
theorem bcells_at {m : Nat} {b : List Nat} (h : b.length = m) (j : Nat) : (bcells m b)[j]? = (b[j]?).map fun (n : Nat) => Value.int .u8 (n : Int) := by
  unfold bcells
  rw [h, Nat.sub_self]
  simp
theorem bcells_text {m : Nat} {b : List Nat} (h : b.length = m) (h255 : ∀ n ∈ b, n ≤ 255) (W : World) (g : Nat) (hl : Lies W g 172 (bcells m b)) (cap : Nat) : (convert 29 9 (.slice (some ⟨g, 0, none⟩) m cap)).run Tryz.prog W = .ok (.string (S (b.map UInt8.ofNat))) W := by
  have hm : (b.map UInt8.ofNat).length = m := by rw [List.length_map, h]
  rw [← hm]
  exact run_convert_bytes_back (P := Tryz.prog) W 29 9 5 ⟨g, 0, none⟩ cap (b.map UInt8.ofNat) Tryz.underlying29 Tryz.underlying5 Tryz.underlying9 (fun j hj => by
    have hj' : j < b.length := by simpa using hj
    have e : (Addr.add ⟨g, 0, none⟩ j) = ⟨g, j, none⟩ := by by_cases h0 : j = 0 <;> simp [Addr.add, h0]
    rw [e, hl.cell, bcells_at h, List.getElem?_eq_getElem hj']
    have := h255 b[j] (List.getElem_mem _)
    simp
    omega)

def V4 (l : Str) : Value := match four l with
  | some b => .tuple #[.string (S (b.map UInt8.ofNat)), .bool true]
  | none => .tuple #[.string ⟨#[]⟩, .bool false]

set_option maxRecDepth 100000 in
set_option maxHeartbeats 2000000 in
theorem parseV4_any (s : ByteArray) (hs : s.size ≤ 3000) (w : World) (he : Env w) : Calls Tryz.prog 130 #[.string s] w (Gives (V4 s.data.toList) w) := by
  have hsp := splitN_any s hs 46 4 (by omega) (by omega) w he
  have hf := four_upto s.data.toList
  have hsz : ∀ x ∈ upto 46 4 s.data.toList, x.length ≤ 3000 := fun x hx => by have := piece_size x hx; rw [list_len] at this; omega
  generalize hL : upto 46 4 s.data.toList = L at hsp hf hsz
  have hV : ∀ v, four s.data.toList = v → V4 s.data.toList = match v with
      | some b => .tuple #[.string (S (b.map UInt8.ofNat)), .bool true]
      | none => .tuple #[.string ⟨#[]⟩, .bool false] := fun v e => by unfold V4; rw [e]
  have HSP := Lib.hid hsp
  have HF := Lib.hid hf
  have HSZ := Lib.hid hsz
  have HV := Lib.hid hV
  have HE := Lib.hid he
  clear hsp hf hsz hV hL he
  go_enter Tryz.func130, Tryz.ntmps130
  go_wp2_with fail
  refine HSP.out.mono ?_
  rintro e w1 ⟨g0, cap, rfl, hb1, hg1, hg2, hcap, hcell⟩
  have HB1 := Lib.hid hb1
  have HC := Lib.hid hcell
  have HG1 := Lib.hid hg1
  have HG2 := Lib.hid hg2
  clear hb1 hcell hg1 hg2 hcap
  by_cases h4 : L.length = 4
  · have hf := HF.out
    rw [if_pos h4] at hf
    have HF2 := Lib.hid hf
    clear hf HF
    obtain ⟨w2, hw2⟩ : ∃ w2, w2 = w1.alloc (.cells #[.int .u8 0, .int .u8 0, .int .u8 0, .int .u8 0] 172) := ⟨_, rfl⟩
    have h0 : Lies w2 w1.heap.size 172 (bcells 4 []) := by rw [hw2, show bcells 4 [] = #[.int .u8 0, .int .u8 0, .int .u8 0, .int .u8 0] from rfl]; exact Lies.new _ _ _
    have hb0 : Below w1.heap.size w1 w2 := by rw [hw2]; exact (Below.refl _ w1).alloc (Nat.le_refl _) _
    have H0 := Lib.hid h0
    have HB0 := Lib.hid hb0
    have H4 := Lib.hid h4
    clear h0 hb0
    rw [h4]
    clear h4
    go_wp2
    rw [← hw2]
    clear hw2
    go_loopw [14] (fun s14 wr => ∃ k : Nat, ∃ b : List Nat, k ≤ 4 ∧ s14 = .int .i64 (k : Int) ∧ Hid (decs (L.take k) = some b) ∧ Hid (Lies wr w1.heap.size 172 (bcells 4 b)) ∧ Hid (Below w1.heap.size w1 wr)) (fun s14 _ => 4 - (intOf s14).toNat)
    case atStart => exact ⟨0, [], by omega, rfl, Lib.hid rfl, H0, HB0⟩
    case round =>
      clear H0 HB0
      obtain ⟨k, b, hk, rfl, HD, HR, HB⟩ := hrel
      by_cases hlt : k < 4
      · obtain ⟨x, hx⟩ : ∃ x, L[k]? = some x := ⟨_, List.getElem?_eq_getElem (by rw [H4.out]; exact hlt)⟩
        have hld := cell_kept (HC.out k x hx) HB.out
        have hxs : (S x).size ≤ 3000 := by rw [S_size]; exact HSZ.out x (List.mem_of_getElem? hx)
        have htk : L.take (k + 1) = L.take k ++ [x] := by rw [List.take_add_one, hx]; rfl
        have hbl : b.length = k := by rw [decs_len HD.out, List.length_take, H4.out]; omega
        cases hdx : dec x 255 with
        | none =>
          have hp := parse_dec_none (S x) hxs (by rw [S_list]; exact hdx) wr
          have hdead : decs L = none := by
            rw [← List.take_append_drop (k + 1) L, htk]
            apply decs_dead
            rw [decs_snoc, HD.out]
            show (match dec x 255 with | none => none | some v => some (b ++ [v])) = none
            rw [hdx]
          have hv := HV.out none (HF2.out.trans hdead)
          have HP := Lib.hid hp
          have HV2 := Lib.hid hv
          clear hp hv hdead hdx htk hxs hx hbl
          generalize S x = y at *
          go_wp2_with fail
          refine HP.out.mono ?_
          rintro e w3 ⟨rfl, rfl⟩
          go_wp2
          go_ret2
          exact ⟨by rw [HV2.out]; rfl, HB1.out.trans (HB.out.mono HB1.out.size)⟩
        | some n =>
          have hn := dec_le (by omega) hdx
          have hp := parse_dec_some (S x) hxs (by rw [S_list]; exact hdx) wr
          have hd2 : decs (L.take (k + 1)) = some (b ++ [n]) := by
            rw [htk, decs_snoc, HD.out]
            show (match dec x 255 with | none => none | some v => some (b ++ [v])) = _
            rw [hdx]
          have hfr := HR.out.frozen k
          have hst := HR.out.set k (.int .u8 (n : Int))
          have hbs := bcells_step (m := 4) (b := b) (by omega) n
          rw [hbl] at hbs
          rw [hbs] at hst
          obtain ⟨x0, hx0⟩ : ∃ x0, wr.cell? ⟨w1.heap.size, k, none⟩ = some x0 := by rw [HR.out.cell k]; exact ⟨_, Array.getElem?_eq_getElem (by rw [bcells_size (by omega)]; exact hlt)⟩
          have hb3 := HB.out.setCell (p := ⟨w1.heap.size, k, none⟩) (Nat.le_refl _) (.int .u8 (n : Int))
          have hwr : IntKind.u8.wrap (n : Int) = (n : Int) := by rw [IntKind.wrap_u8]; omega
          have HP := Lib.hid hp
          have HD2 := Lib.hid hd2
          have HST := Lib.hid hst
          have HB3 := Lib.hid hb3
          clear hp hd2 hst hbs hb3 hdx htk hxs hx hbl hn
          generalize S x = y at *
          go_wp2_with fail
          refine HP.out.mono ?_
          rintro e w3 ⟨rfl, rfl⟩
          go_wp2
          go_roundw
          case rel => exact ⟨k + 1, b ++ [n], by omega, by go_num, HD2, HST, HB3⟩
          case measure => simp [intOf]; omega
      · obtain rfl : k = 4 := by omega
        have hd := HD.out
        rw [List.take_of_length_le (by rw [H4.out]; omega)] at hd
        have hl := decs_len hd
        rw [H4.out] at hl
        have hv := HV.out _ (HF2.out.trans hd)
        dsimp only at hv
        have hcv := bcells_text hl (decs_iff.1 hd).1 wr w1.heap.size HR.out 4
        obtain ⟨t, ht⟩ : ∃ t, t = S (b.map UInt8.ofNat) := ⟨_, rfl⟩
        rw [← ht] at hcv hv
        have HV2 := Lib.hid hv
        clear ht hd hl hv
        go_wp2
        go_ret2
        exact ⟨by rw [HV2.out]; rfl, HB1.out.trans (HB.out.mono HB1.out.size)⟩
  · have hf := HF.out
    rw [if_neg h4] at hf
    have hv := HV.out _ hf
    have hne : ¬ ((L.length : Int) = 4) := by omega
    have HV2 := Lib.hid hv
    clear hf hv h4
    go_wp2
    go_ret2
    exact ⟨by rw [HV2.out]; rfl, HB1.out⟩

end Go.Proofs.YtghdaengkgiekaaGreatDoor.hw
