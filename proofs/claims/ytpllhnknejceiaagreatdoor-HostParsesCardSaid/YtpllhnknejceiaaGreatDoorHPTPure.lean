/-
  Given for the seat's laws: a target as the program reads it, without memory. No condition but those of the theorems.
-/
import Derived.Test.YtpllhnknejceiaaGreatDoorHParse2
namespace Go.Proofs.YtpllhnknejceiaaGreatDoor.hw
open Go.RowKit mem hostp
set_option linter.unusedVariables false

theorem occ_drop {s sep : Str} {i : Nat} (h : Lib.occAt s sep i = true) : ∃ t, s.drop i = sep ++ t := by
  unfold Lib.occAt at h
  obtain ⟨t, ht⟩ := List.isPrefixOf_iff_prefix.1 h
  exact ⟨t, ht.symm⟩
theorem occ_put (x sep y : Str) : Lib.occAt (x ++ sep ++ y) sep x.length = true := by
  unfold Lib.occAt
  rw [List.append_assoc, List.drop_left]
  exact List.isPrefixOf_iff_prefix.2 ⟨y, rfl⟩
theorem cut_cases (s sep : Str) : (∃ x y, Lib.cut s sep = (x, y, true) ∧ s = x ++ sep ++ y ∧ ∀ j, j < x.length → Lib.occAt s sep j = false) ∨ (Lib.cut s sep = (s, [], false) ∧ ∀ j, j ≤ s.length → Lib.occAt s sep j = false) := by
  rcases Lib.index_spec s sep with ⟨h, hno⟩ | ⟨i, h, hi, hocc, hno⟩
  · right
    unfold Lib.cut
    rw [h, if_neg (by omega)]
    exact ⟨rfl, hno⟩
  · left
    obtain ⟨t, ht⟩ := occ_drop hocc
    refine ⟨s.take i, t, ?_, ?_, fun j hj => hno j (by rw [List.length_take] at hj; omega)⟩
    · unfold Lib.cut
      rw [h, if_pos (by omega), Int.toNat_natCast]
      congr 2
      rw [← List.drop_drop, ht]
      simp
    · rw [List.append_assoc, ← ht, List.take_append_drop]
theorem occ_one {s : Str} {c : UInt8} {j : Nat} (h : s[j]? = some c) : Lib.occAt s [c] j = true := by
  obtain ⟨hj, e⟩ := List.getElem?_eq_some_iff.1 h
  unfold Lib.occAt
  rw [List.drop_eq_getElem_cons hj, e]
  simp [List.isPrefixOf]
theorem free_of {x : Str} {c : UInt8} {r : Str} (h : ∀ j, j < x.length → Lib.occAt (x ++ r) [c] j = false) : c ∉ x := fun hc => by
  obtain ⟨j, hj, e⟩ := List.getElem_of_mem hc
  have h1 := h j hj
  rw [occ_one (by rw [List.getElem?_append_left hj, List.getElem?_eq_getElem hj, e])] at h1
  cases h1
theorem cut58_cases (s : Str) : (∃ x y, Lib.cut s [58] = (x, y, true) ∧ s = x ++ 58 :: y ∧ (58 : UInt8) ∉ x) ∨ (Lib.cut s [58] = (s, [], false) ∧ (58 : UInt8) ∉ s) := by
  rcases cut_cases s [58] with ⟨x, y, h1, h2, h3⟩ | ⟨h1, h2⟩
  · refine .inl ⟨x, y, h1, by rw [h2]; simp, ?_⟩
    rw [h2, List.append_assoc] at h3
    exact free_of h3
  · refine .inr ⟨h1, ?_⟩
    have : ∀ j, j < s.length → Lib.occAt (s ++ []) [58] j = false := fun j hj => by rw [List.append_nil]; exact h2 j (by omega)
    exact free_of this

/-- the target that the program reads -/
def ptP (s : Str) : Option T :=
  if s.head? = some 91 then (parse (Lib.cut s.tail [93, 58]).1).bind fun h => if h.kind = 2 then withPort h (Lib.cut s.tail [93, 58]).2.1 else none
  else (parse (Lib.cut s [58]).1).bind fun h => withPort h (Lib.cut s [58]).2.1

theorem dec_colon {x : Str} (h : (58 : UInt8) ∈ x) : dec x 65535 = none := by
  cases hd : dec x 65535 with
  | none => rfl
  | some n =>
    obtain ⟨_, h2⟩ := (dec_iff (by omega)).1 hd
    have := nm10_free n 58 (by rw [← h2]; exact h)
    simp at this
theorem port_colon {h : H} {x : Str} (hx : (58 : UInt8) ∈ x) : withPort h x = none := by unfold withPort; rw [dec_colon hx]
theorem port_nil (h : H) : withPort h [] = none := by
  unfold withPort
  cases hd : dec [] 65535 with
  | none => rfl
  | some n =>
    obtain ⟨_, h2⟩ := (dec_iff (by omega)).1 hd
    exact absurd h2.symm (nm_ne (by omega) n)
theorem parse_no58 {t : Str} {h : H} (h58 : (58 : UInt8) ∉ t) (hp : parse t = some h) : h.kind ≠ 2 := by
  unfold parse at hp
  rw [if_neg (fun e => h58 (low_58.1 e))] at hp
  split at hp
  · cases hf : four (low t) with
    | none => rw [hf] at hp; cases hp
    | some b => rw [hf] at hp; simp at hp; rw [← hp]; simp
  · split at hp
    · simp at hp; rw [← hp]; simp
    · cases hp
theorem parse_58 {t : Str} {h : H} (h58 : (58 : UInt8) ∈ t) (hp : parse t = some h) : h.kind = 2 := by
  unfold parse at hp
  rw [if_pos (low_58.2 h58)] at hp
  cases hf : six (low t) with
  | none => rw [hf] at hp; cases hp
  | some b => rw [hf] at hp; simp at hp; rw [← hp]
theorem grps_mem : ∀ {l : List Str} {a : List Nat}, grps l = some a → ∀ x ∈ l, ∀ c ∈ x, ∃ d, dv c = some d
  | [], _, _, x, hx, _, _ => by simp at hx
  | y :: l, a, h, x, hx, c, hc => by
    unfold grps at h
    split at h
    · cases h
    · rename_i v hv
      split at h
      · cases h
      · rename_i t ht
        rcases List.mem_cons.1 hx with rfl | hx
        · unfold grp at hv
          split at hv
          · obtain ⟨d, hd, _⟩ := vl_mem hv c hc
            exact ⟨d, hd⟩
          · cases hv
        · exact grps_mem ht x hx c hc
theorem groups_mem {s : Str} {a : List Nat} (h : groups s = some a) : ∀ c ∈ s, c = 58 ∨ ∃ d, dv c = some d := fun c hc => by
  unfold groups at h
  split at h
  · rename_i h0; rw [h0] at hc; simp at hc
  · rw [← join_cut 58 s] at hc
    rcases join_mem hc with e | ⟨x, hx, hc⟩
    · exact .inl e
    · exact .inr (grps_mem h x hx c hc)
theorem six_mem {s : Str} {a : List Nat} (h : six s = some a) : ∀ c ∈ s, c = 58 ∨ ∃ d, dv c = some d := fun c hc => by
  unfold six at h
  cases hd : cutDC s with
  | none =>
    rw [hd] at h
    dsimp only at h
    cases hg : groups s with
    | none => rw [hg] at h; cases h
    | some b => exact groups_mem hg c hc
  | some q =>
    rw [hd] at h
    dsimp only at h
    rw [cutDC_some (p := q.1) (r := q.2) hd] at hc
    cases hg : groups q.1 with
    | none => rw [hg] at h; cases h
    | some b =>
      cases hg2 : groups q.2 with
      | none => rw [hg, hg2] at h; cases h
      | some b2 =>
        rcases List.mem_append.1 hc with hc | hc
        · exact groups_mem hg c hc
        · rcases List.mem_cons.1 hc with e | hc
          · exact .inl e
          · rcases List.mem_cons.1 hc with e | hc
            · exact .inl e
            · exact groups_mem hg2 c hc
theorem lc_93 : lc 93 = 93 := by decide
theorem parse_93 {t : Str} (h58 : (58 : UInt8) ∈ t) (h93 : (93 : UInt8) ∈ t) : parse t = none := by
  unfold parse
  rw [if_pos (low_58.2 h58)]
  cases hs : six (low t) with
  | none => rfl
  | some a =>
    have h1 : (93 : UInt8) ∈ low t := List.mem_map.2 ⟨93, h93, lc_93⟩
    rcases six_mem hs 93 h1 with e | ⟨d, hd⟩
    · simp at e
    · rw [show dv 93 = none by decide] at hd
      cases hd

theorem last_mem : ∀ {y : Str}, (58 : UInt8) ∈ y → ∃ z p, y = z ++ 58 :: p ∧ (58 : UInt8) ∉ p
  | [], h => by simp at h
  | c :: r, h => by
    by_cases hr : (58 : UInt8) ∈ r
    · obtain ⟨z, p, h1, h2⟩ := last_mem hr
      exact ⟨c :: z, p, by rw [h1]; rfl, h2⟩
    · rcases List.mem_cons.1 h with e | e
      · exact ⟨[], r, by rw [e]; rfl, hr⟩
      · exact absurd e hr
theorem ahead_last {x y u p : Str} (h : x ++ 58 :: y = u ++ 58 :: p) (hy : (58 : UInt8) ∈ y) (hp : (58 : UInt8) ∉ p) : ∃ z, u = x ++ 58 :: z := by
  obtain ⟨z, q, h1, h2⟩ := last_mem hy
  refine ⟨z, ?_⟩
  have e1 := lastC_put u hp
  rw [← h, h1, show x ++ 58 :: (z ++ 58 :: q) = (x ++ 58 :: z) ++ 58 :: q by simp, lastC_put _ h2] at e1
  simp only [Option.some.injEq, Prod.mk.injEq] at e1
  exact e1.1.symm

theorem ptP_eq (s : Str) : ptP s = parseT s := by
  unfold ptP
  by_cases h91 : s.head? = some 91
  · obtain ⟨r, rfl⟩ : ∃ r, s = 91 :: r := by
      cases s with
      | nil => simp at h91
      | cons c r => simp at h91; exact ⟨r, by rw [h91]⟩
    rw [if_pos h91]
    show (parse (Lib.cut r [93, 58]).1).bind (fun h => if h.kind = 2 then withPort h (Lib.cut r [93, 58]).2.1 else none) = _
    rcases cut_cases r [93, 58] with ⟨x, y, hc, hr, _⟩ | ⟨hc, hno⟩
    · rw [hc]
      dsimp only
      have hr' : r = (x ++ [93]) ++ 58 :: y := by rw [hr]; simp
      by_cases h58 : (58 : UInt8) ∈ y
      · have hl : (parse x).bind (fun h => if h.kind = 2 then withPort h y else none) = none := by
          cases parse x with
          | none => rfl
          | some h =>
            show (if h.kind = 2 then withPort h y else none) = none
            rw [port_colon h58]; simp
        rw [hl]
        unfold parseT
        cases hlc : lastC (91 :: r) with
        | none => rfl
        | some q =>
          obtain ⟨t, p⟩ := q
          obtain ⟨he, hp58⟩ := lastC_some hlc
          dsimp only
          have ht : hostOf t = none := by
            cases t with
            | nil => rfl
            | cons c t' =>
              obtain ⟨rfl, he'⟩ : (91 : UInt8) = c ∧ r = t' ++ 58 :: p := by simpa using he
              unfold hostOf
              dsimp only
              rw [if_pos rfl]
              split
              · rename_i hgl
                obtain ⟨u, hu⟩ : ∃ u, t' = u ++ [93] := by
                  obtain ⟨u, hu⟩ := List.getLast?_eq_some_iff.1 hgl
                  exact ⟨u, hu⟩
                have hin : (58 : UInt8) ∈ u ∧ (93 : UInt8) ∈ u := by
                  obtain ⟨z, hz⟩ := ahead_last (hr'.symm.trans he') h58 hp58
                  rw [hu] at hz
                  rcases List.eq_nil_or_concat z with rfl | ⟨z', e, rfl⟩
                  · exfalso
                    have := congrArg List.getLast? hz
                    simp at this
                  · rw [List.concat_eq_append] at hz
                    have h2 := congrArg List.dropLast hz
                    rw [List.dropLast_concat, show (x ++ [(93 : UInt8)]) ++ 58 :: (z' ++ [e]) = ((x ++ [93]) ++ 58 :: z') ++ [e] by simp, List.dropLast_concat] at h2
                    rw [h2]
                    simp
                rw [hu, List.dropLast_concat, parse_93 hin.1 hin.2]
                rfl
              · rfl
          rw [ht]
          rfl
      · unfold parseT
        rw [hr', ← List.cons_append, lastC_put (91 :: (x ++ [93])) h58]
        dsimp only
        show _ = (hostOf (91 :: (x ++ [93]))).bind fun h => withPort h y
        unfold hostOf
        dsimp only
        rw [if_pos rfl, if_pos (by simp), List.dropLast_concat]
        cases parse x with
        | none => rfl
        | some h =>
          show (if h.kind = 2 then withPort h y else none) = (if h.kind = 2 then some h else none).bind fun h => withPort h y
          by_cases hk : h.kind = 2
          · rw [if_pos hk, if_pos hk]; rfl
          · rw [if_neg hk, if_neg hk]; rfl
    · rw [hc]
      dsimp only
      have hl : (parse r).bind (fun h => if h.kind = 2 then withPort h [] else none) = none := by
        cases parse r with
        | none => rfl
        | some h =>
          show (if h.kind = 2 then withPort h [] else none) = none
          rw [port_nil]; simp
      rw [hl]
      unfold parseT
      cases hlc : lastC (91 :: r) with
      | none => rfl
      | some q =>
        obtain ⟨t, p⟩ := q
        obtain ⟨he, hp58⟩ := lastC_some hlc
        dsimp only
        have ht : hostOf t = none := by
          cases t with
          | nil => rfl
          | cons c t' =>
            obtain ⟨rfl, he'⟩ : (91 : UInt8) = c ∧ r = t' ++ 58 :: p := by simpa using he
            unfold hostOf
            dsimp only
            rw [if_pos rfl]
            split
            · rename_i hgl
              obtain ⟨u, hu⟩ := List.getLast?_eq_some_iff.1 hgl
              exfalso
              have e : r = u ++ [93, 58] ++ p := by rw [he', hu]; simp
              have h1 := hno u.length (by rw [e]; simp)
              rw [e, occ_put] at h1
              cases h1
            · rfl
        rw [ht]
        rfl
  · rw [if_neg h91]
    rcases cut58_cases s with ⟨x, y, hc, hs, hx⟩ | ⟨hc, hno⟩
    · rw [hc]
      dsimp only
      by_cases h58 : (58 : UInt8) ∈ y
      · have hl : (parse x).bind (fun h => withPort h y) = none := by
          cases parse x with
          | none => rfl
          | some h => exact port_colon h58
        rw [hl]
        unfold parseT
        cases hlc : lastC s with
        | none => rfl
        | some q =>
          obtain ⟨t, p⟩ := q
          obtain ⟨he, hp58⟩ := lastC_some hlc
          dsimp only
          have ht : hostOf t = none := by
            have hin : (58 : UInt8) ∈ t := by
              obtain ⟨z, hz⟩ := ahead_last (hs.symm.trans he) h58 hp58
              rw [hz]
              simp
            cases t with
            | nil => rfl
            | cons c t' =>
              have hc91 : c ≠ 91 := fun e => h91 (by rw [he, e]; rfl)
              unfold hostOf
              dsimp only
              rw [if_neg hc91]
              cases hp : parse (c :: t') with
              | none => rfl
              | some h =>
                show (if h.kind = 2 then none else some h) = none
                rw [if_pos (parse_58 hin hp)]
          rw [ht]
          rfl
      · unfold parseT
        rw [hs, lastC_put x h58]
        dsimp only
        cases x with
        | nil => rfl
        | cons c t' =>
          have hc91 : c ≠ 91 := fun e => h91 (by rw [hs, e]; rfl)
          unfold hostOf
          dsimp only
          rw [if_neg hc91]
          cases hp : parse (c :: t') with
          | none => rfl
          | some h =>
            show withPort h y = (if h.kind = 2 then none else some h).bind fun h => withPort h y
            rw [if_neg (parse_no58 hx hp)]
            rfl
    · rw [hc]
      dsimp only
      have hl : (parse s).bind (fun h => withPort h []) = none := by
        cases parse s with
        | none => rfl
        | some h => exact port_nil h
      rw [hl]
      unfold parseT
      rw [lastC_free hno]
end Go.Proofs.YtpllhnknejceiaaGreatDoor.hw
