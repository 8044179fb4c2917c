/-
  Given for the seat's laws: the contract of parseV4. No condition but what two variables of the library hold.
-/
import Derived.Test.YtefpplkoohnfbabGreatDoorHKind
namespace Go.Proofs.YtefpplkoohnfbabGreatDoor.hw
open Go.RowKit mem hostp
set_option linter.unusedVariables false

/-! ### decimals -/
theorem dec_le {s : Str} {m n : Nat} (hm : m ≤ 999999) (h : dec s m = some n) : n ≤ m := ((dec_iff hm).1 h).1
theorem parse_dec_some (s : ByteArray) (hs : s.size ≤ 3000) {n : Nat} (h : dec s.data.toList 255 = some n) (w : World) : Calls Tryz.prog 43 #[.string s, .int .i64 0, .int .i64 255] w fun e w' => e = .returned (.tuple #[.int .i64 (n : Int), .int .i64 0]) ∧ w = w' := by
  have hp := parseF_dec (l := s.data.toList) (m := 255) (by omega) 0
  rw [h] at hp
  dsimp only at hp
  rw [if_pos (by omega)] at hp
  refine (parse.parse_in s 0 255 hs (by omega) (by omega) (by omega) w).mono ?_
  rintro e w' ⟨rfl, rfl⟩
  rw [show ((255 : Nat) : Int) = 255 from rfl] at hp
  rw [hp]
  exact ⟨rfl, rfl⟩
theorem parse_dec_none (s : ByteArray) (hs : s.size ≤ 3000) (h : dec s.data.toList 255 = none) (w : World) : Calls Tryz.prog 43 #[.string s, .int .i64 0, .int .i64 255] w fun e w' => e = .returned (.tuple #[.int .i64 0, .int .i64 6]) ∧ w = w' := by
  have hp := parseF_dec (l := s.data.toList) (m := 255) (by omega) 0
  rw [h] at hp
  dsimp only at hp
  refine (parse.parse_in s 0 255 hs (by omega) (by omega) (by omega) w).mono ?_
  rintro e w' ⟨rfl, rfl⟩
  rw [show ((255 : Nat) : Int) = 255 from rfl] at hp
  rw [hp]
  exact ⟨rfl, rfl⟩

/-! ### four of them -/
theorem decs_snoc {l : List Str} {x : Str} : decs (l ++ [x]) = match decs l with
    | none => none
    | some a => match dec x 255 with
      | none => none
      | some v => some (a ++ [v]) := by
  rw [decs_append]
  cases decs l with
  | none => rfl
  | some a =>
    show (match decs [x] with | none => none | some b => some (a ++ b)) = _
    unfold decs
    cases dec x 255 with
    | none => rfl
    | some v => rfl
theorem decs_dead {l m : List Str} (h : decs l = none) : decs (l ++ m) = none := by rw [decs_append, h]
theorem decs_len {l : List Str} {b : List Nat} (h : decs l = some b) : b.length = l.length := by
  have := (decs_iff.1 h).2
  rw [this, List.length_map]
theorem dec_dot {x : Str} {m : Nat} (hm : m ≤ 999999) (h : (46 : UInt8) ∈ x) : dec x m = none := by
  cases hd : dec x m with
  | none => rfl
  | some n =>
    have := ((dec_iff hm).1 hd).2
    rw [this] at h
    exact absurd h (not_mem_nm10 n (.inl (by decide)))
theorem four_upto (l : Str) : four l = if (upto 46 4 l).length = 4 then decs (upto 46 4 l) else none := by
  unfold four
  rcases Nat.lt_trichotomy (cut 46 l).length 4 with h | h | h
  · rw [upto_le (by omega)]
  · rw [upto_le (by omega)]
  · rw [if_neg (by omega)]
    have hl : (upto 46 4 l).length = 4 := by rw [upto_len 46 (by omega)]; omega
    rw [if_pos hl]
    obtain ⟨x, hx, hm⟩ := upto_last (a := 46) (n := 4) (by omega) h
    have hx' : (upto 46 4 l)[3]? = some x := hx
    have : upto 46 4 l = (upto 46 4 l).take 3 ++ [x] := by
      conv => lhs; rw [← List.take_append_drop 3 (upto 46 4 l)]
      rw [List.drop_eq_getElem_cons (by omega), List.drop_eq_nil_of_le (by omega)]
      congr 2
      rw [List.getElem?_eq_getElem (by omega)] at hx'
      exact Option.some.inj hx'
    rw [this, decs_snoc]
    cases decs ((upto 46 4 l).take 3) with
    | none => rfl
    | some a =>
      show none = match dec x 255 with | none => none | some v => some (a ++ [v])
      rw [dec_dot (by omega) hm]

/-- the cells of an array of so many bytes, when the first ones are written -/
def bcells (m : Nat) (b : List Nat) : Array Value := (b.map (fun (n : Nat) => Value.int .u8 (n : Int)) ++ List.replicate (m - b.length) (Value.int .u8 0)).toArray
theorem bcells_size {m : Nat} {b : List Nat} (h : b.length ≤ m) : (bcells m b).size = m := by unfold bcells; simp; omega
theorem bcells_step {m : Nat} {b : List Nat} (h : b.length < m) (n : Nat) : (bcells m b).setIfInBounds b.length (.int .u8 (n : Int)) = bcells m (b ++ [n]) := by
  unfold bcells
  obtain ⟨k, hk⟩ : ∃ k, m - b.length = k + 1 := ⟨m - b.length - 1, by omega⟩
  have hk2 : m - (b ++ [n]).length = k := by simp; omega
  rw [hk, hk2, List.setIfInBounds_toArray, List.map_append, List.replicate_succ]
  congr 1
  rw [List.set_append_right _ _ (by simp)]
  simp
theorem bcells_at {m : Nat} {b : List Nat} (h : b.length = m) (j : Nat) : (bcells m b)[j]? = (b[j]?).map fun (n : Nat) => Value.int .u8 (n : Int) := by
  unfold bcells
  rw [h, Nat.sub_self]
  simp
theorem bcells_text {m : Nat} {b : List Nat} (h : b.length = m) (h255 : ∀ n ∈ b, n ≤ 255) (W : World) (g : Nat) (hl : Lies W g 88 (bcells m b)) (cap : Nat) : (convert 28 9 (.slice (some ⟨g, 0, none⟩) m cap)).run Tryz.prog W = .ok (.string (S (b.map UInt8.ofNat))) W := by
  have hm : (b.map UInt8.ofNat).length = m := by rw [List.length_map, h]
  rw [← hm]
  exact run_convert_bytes_back (P := Tryz.prog) W 28 9 5 ⟨g, 0, none⟩ cap (b.map UInt8.ofNat) Tryz.underlying28 Tryz.underlying5 Tryz.underlying9 (fun j hj => by
    have hj' : j < b.length := by simpa using hj
    have e : (Addr.add ⟨g, 0, none⟩ j) = ⟨g, j, none⟩ := by by_cases h0 : j = 0 <;> simp [Addr.add, h0]
    rw [e, hl.cell, bcells_at h, List.getElem?_eq_getElem hj']
    have := h255 b[j] (List.getElem_mem _)
    simp
    omega)

def V4 (l : Str) : Value := match four l with
  | some b => .tuple #[.string (S (b.map UInt8.ofNat)), .bool true]
  | none => .tuple #[.string ⟨#[]⟩, .bool false]

set_option maxRecDepth 100000 in
set_option maxHeartbeats 2000000 in
theorem parseV4_any (s : ByteArray) (hs : s.size ≤ 3000) (w : World) (he : Env w) : Calls Tryz.prog 29 #[.string s] w (Gives (V4 s.data.toList) w) := by
  have hsp := splitN_any s hs 46 4 (by omega) (by omega) w he
  have hf := four_upto s.data.toList
  have hsz : ∀ x ∈ upto 46 4 s.data.toList, x.length ≤ 3000 := fun x hx => by have := piece_size x hx; rw [list_len] at this; omega
  generalize hL : upto 46 4 s.data.toList = L at hsp hf hsz
  have hV : ∀ v, four s.data.toList = v → V4 s.data.toList = match v with
      | some b => .tuple #[.string (S (b.map UInt8.ofNat)), .bool true]
      | none => .tuple #[.string ⟨#[]⟩, .bool false] := fun v e => by unfold V4; rw [e]
  have HSP := Lib.hid hsp
  have HF := Lib.hid hf
  have HSZ := Lib.hid hsz
  have HV := Lib.hid hV
  have HE := Lib.hid he
  clear hsp hf hsz hV hL he
  go_enter Tryz.func29, Tryz.ntmps29
  go_wp2_with fail
  refine HSP.out.mono ?_
  rintro e w1 ⟨g0, cap, rfl, hb1, hg1, hg2, hcap, hcell⟩
  have HB1 := Lib.hid hb1
  have HC := Lib.hid hcell
  have HG1 := Lib.hid hg1
  have HG2 := Lib.hid hg2
  clear hb1 hcell hg1 hg2 hcap
  by_cases h4 : L.length = 4
  · have hf := HF.out
    rw [if_pos h4] at hf
    have HF2 := Lib.hid hf
    clear hf HF
    obtain ⟨w2, hw2⟩ : ∃ w2, w2 = w1.alloc (.cells #[.int .u8 0, .int .u8 0, .int .u8 0, .int .u8 0] 88) := ⟨_, rfl⟩
    have h0 : Lies w2 w1.heap.size 88 (bcells 4 []) := by rw [hw2, show bcells 4 [] = #[.int .u8 0, .int .u8 0, .int .u8 0, .int .u8 0] from rfl]; exact Lies.new _ _ _
    have hb0 : Below w1.heap.size w1 w2 := by rw [hw2]; exact (Below.refl _ w1).alloc (Nat.le_refl _) _
    have H0 := Lib.hid h0
    have HB0 := Lib.hid hb0
    have H4 := Lib.hid h4
    clear h0 hb0
    rw [h4]
    clear h4
    go_wp2
    rw [← hw2]
    clear hw2
    go_loopw [14] (fun s14 wr => ∃ k : Nat, ∃ b : List Nat, k ≤ 4 ∧ s14 = .int .i64 (k : Int) ∧ Hid (decs (L.take k) = some b) ∧ Hid (Lies wr w1.heap.size 88 (bcells 4 b)) ∧ Hid (Below w1.heap.size w1 wr)) (fun s14 _ => 4 - (intOf s14).toNat)
    case atStart => exact ⟨0, [], by omega, rfl, Lib.hid rfl, H0, HB0⟩
    case round =>
      clear H0 HB0
      obtain ⟨k, b, hk, rfl, HD, HR, HB⟩ := hrel
      by_cases hlt : k < 4
      · obtain ⟨x, hx⟩ : ∃ x, L[k]? = some x := ⟨_, List.getElem?_eq_getElem (by rw [H4.out]; exact hlt)⟩
        have hld := cell_kept (HC.out k x hx) HB.out
        have hxs : (S x).size ≤ 3000 := by rw [S_size]; exact HSZ.out x (List.mem_of_getElem? hx)
        have htk : L.take (k + 1) = L.take k ++ [x] := by rw [List.take_add_one, hx]; rfl
        have hbl : b.length = k := by rw [decs_len HD.out, List.length_take, H4.out]; omega
        cases hdx : dec x 255 with
        | none =>
          have hp := parse_dec_none (S x) hxs (by rw [S_list]; exact hdx) wr
          have hdead : decs L = none := by
            rw [← List.take_append_drop (k + 1) L, htk]
            apply decs_dead
            rw [decs_snoc, HD.out]
            show (match dec x 255 with | none => none | some v => some (b ++ [v])) = none
            rw [hdx]
          have hv := HV.out none (HF2.out.trans hdead)
          have HP := Lib.hid hp
          have HV2 := Lib.hid hv
          clear hp hv hdead hdx htk hxs hx hbl
          generalize S x = y at *
          go_wp2_with fail
          refine HP.out.mono ?_
          rintro e w3 ⟨rfl, rfl⟩
          go_wp2
          go_ret2
          exact ⟨by rw [HV2.out]; rfl, HB1.out.trans (HB.out.mono HB1.out.size)⟩
        | some n =>
          have hn := dec_le (by omega) hdx
          have hp := parse_dec_some (S x) hxs (by rw [S_list]; exact hdx) wr
          have hd2 : decs (L.take (k + 1)) = some (b ++ [n]) := by
            rw [htk, decs_snoc, HD.out]
            show (match dec x 255 with | none => none | some v => some (b ++ [v])) = _
            rw [hdx]
          have hfr := HR.out.frozen k
          have hst := HR.out.set k (.int .u8 (n : Int))
          have hbs := bcells_step (m := 4) (b := b) (by omega) n
          rw [hbl] at hbs
          rw [hbs] at hst
          obtain ⟨x0, hx0⟩ : ∃ x0, wr.cell? ⟨w1.heap.size, k, none⟩ = some x0 := by rw [HR.out.cell k]; exact ⟨_, Array.getElem?_eq_getElem (by rw [bcells_size (by omega)]; exact hlt)⟩
          have hb3 := HB.out.setCell (p := ⟨w1.heap.size, k, none⟩) (Nat.le_refl _) (.int .u8 (n : Int))
          have hwr : IntKind.u8.wrap (n : Int) = (n : Int) := by rw [IntKind.wrap_u8]; omega
          have HP := Lib.hid hp
          have HD2 := Lib.hid hd2
          have HST := Lib.hid hst
          have HB3 := Lib.hid hb3
          clear hp hd2 hst hbs hb3 hdx htk hxs hx hbl hn
          generalize S x = y at *
          go_wp2_with fail
          refine HP.out.mono ?_
          rintro e w3 ⟨rfl, rfl⟩
          go_wp2
          go_roundw
          case rel => exact ⟨k + 1, b ++ [n], by omega, by go_num, HD2, HST, HB3⟩
          case measure => simp [intOf]; omega
      · obtain rfl : k = 4 := by omega
        have hd := HD.out
        rw [List.take_of_length_le (by rw [H4.out]; omega)] at hd
        have hl := decs_len hd
        rw [H4.out] at hl
        have hv := HV.out _ (HF2.out.trans hd)
        dsimp only at hv
        have hcv := bcells_text hl (decs_iff.1 hd).1 wr w1.heap.size HR.out 4
        obtain ⟨t, ht⟩ : ∃ t, t = S (b.map UInt8.ofNat) := ⟨_, rfl⟩
        rw [← ht] at hcv hv
        have HV2 := Lib.hid hv
        clear ht hd hl hv
        go_wp2
        go_ret2
        exact ⟨by rw [HV2.out]; rfl, HB1.out.trans (HB.out.mono HB1.out.size)⟩
  · have hf := HF.out
    rw [if_neg h4] at hf
    have hv := HV.out _ hf
    have hne : ¬ ((L.length : Int) = 4) := by omega
    have HV2 := Lib.hid hv
    clear hf hv h4
    go_wp2
    go_ret2
    exact ⟨by rw [HV2.out]; rfl, HB1.out⟩

end Go.Proofs.YtefpplkoohnfbabGreatDoor.hw
