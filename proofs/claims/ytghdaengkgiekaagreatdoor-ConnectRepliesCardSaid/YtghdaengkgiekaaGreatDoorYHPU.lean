/-
  Given for the seat's laws: the library's reading of hexadecimal numbers of 16 bits: the contract of ParseUint. No condition but what two variables of the library hold.
-/
import Derived.Test.YtghdaengkgiekaaGreatDoorYHMay
import Derived.Lib.ConvBytes
import Derived.Lib.ParseIntBMem
import Derived.Laws.Strings3
import Derived.Laws.Closers25
import Derived.Laws.Closers25b
import Derived.Laws.BitsLemmas
import Derived.BigCall
import Derived.BigGuard
namespace Go.Proofs.YtghdaengkgiekaaGreatDoor.hw
open Go.RowKit mem hostp
set_option linter.unusedVariables false

/-- what digits come to, up to 65535 -/
def pu : Str → Nat → Lib.NumEnd Nat
  | [], a => .ok a
  | c :: r, a => match hostp.dv (lc c) with
    | none => Lib.NumEnd.syntax
    | some d => if a * 16 + d > 65535 then .range else pu r (a * 16 + d)
theorem pu_cons (c : UInt8) (r : Str) (a : Nat) : pu (c :: r) a = match hostp.dv (lc c) with
    | none => Lib.NumEnd.syntax
    | some d => if a * 16 + d > 65535 then .range else pu r (a * 16 + d) := rfl
theorem lo_all : ∀ n : Nat, n < 256 → (65 ≤ n ∧ n ≤ 90 → bits .or .u8 (n : Int) 32 = (n : Int) + 32) ∧ (97 ≤ n ∧ n ≤ 122 → bits .or .u8 (n : Int) 32 = (n : Int)) ∧ (¬ (65 ≤ n ∧ n ≤ 90) → ¬ (97 ≤ n ∧ n ≤ 122) → (bits .or .u8 (n : Int) 32 < 97 ∨ 122 < bits .or .u8 (n : Int) 32)) := by decide +kernel
theorem dv_lc_dig {c : UInt8} (h : 48 ≤ c.toNat ∧ c.toNat ≤ 57) : hostp.dv (lc c) = some (c.toNat - 48) := by rw [lc_else (by omega)]; exact dv_dig h
theorem dv_lc_hex {c : UInt8} {l : Nat} (h : 65 ≤ c.toNat ∧ c.toNat ≤ 90 ∧ l = c.toNat + 32 ∨ 97 ≤ c.toNat ∧ c.toNat ≤ 122 ∧ l = c.toNat) : hostp.dv (lc c) = if l ≤ 102 then some (l - 87) else none := by
  rcases h with ⟨h1, h2, rfl⟩ | ⟨h1, h2, rfl⟩
  · unfold hostp.dv
    rw [lc_great ⟨h1, h2⟩, if_neg (by omega)]
    by_cases h3 : c.toNat + 32 ≤ 102
    · rw [if_pos (by omega), if_pos h3]
    · rw [if_neg (by omega), if_neg h3]
  · unfold hostp.dv
    rw [lc_else (by omega), if_neg (by omega)]
    by_cases h3 : c.toNat ≤ 102
    · rw [if_pos (by omega), if_pos h3]
    · rw [if_neg (by omega), if_neg h3]
theorem dv_lc_no {c : UInt8} (h1 : ¬ (48 ≤ c.toNat ∧ c.toNat ≤ 57)) (h2 : ¬ (65 ≤ c.toNat ∧ c.toNat ≤ 90)) (h3 : ¬ (97 ≤ c.toNat ∧ c.toNat ≤ 122)) : hostp.dv (lc c) = none := by
  unfold hostp.dv
  rw [lc_else h2, if_neg h1, if_neg (by omega)]

set_option maxHeartbeats 32000000 in
set_option maxRecDepth 100000 in
theorem iParseUint_in (t : ByteArray) (hne : t.size ≠ 0) (hmax : t.size ≤ 1000000000) (w : World) :
    Calls Tryz.prog 167 #[.string t, .int .i64 16, .int .i64 16] w fun e w' => e = .returned (Lib.uintTupleM 195 65535 (pu t.data.toList 0)) ∧ w' = Lib.bytesWorld w 5 t := by
  have hemp : t.toList.isEmpty = false := by
    rw [empty_iff, decide_eq_false (fun e => hne (list_nil.1 e))]
  have hemp2 : ¬ t.toList = [] := by rw [Lib.toList_data]; exact fun e => hne (list_nil.1 e)
  have hcv := Lib.run_convert_string_bytes (P := Tryz.prog) w 9 29 5 t (u := .string) Tryz.underlying9 Tryz.underlying29 Tryz.underlying5
  have hB : ∀ j, j < t.size → (Lib.bytesWorld w 5 t).cell? ⟨w.heap.size, j, none⟩ = some (.int .u8 (t.data.toList.getD j 0).toNat) := fun j hj => Lib.bytesWorld_cell w 5 t j hj
  obtain ⟨W1, hW1⟩ : ∃ W1, W1 = Lib.bytesWorld w 5 t := ⟨_, rfl⟩
  rw [← hW1] at hcv hB ⊢
  clear hW1
  obtain ⟨bs, hL⟩ : ∃ bs, bs = t.data.toList := ⟨_, rfl⟩
  have hLn : bs.length = t.size := by rw [hL, list_len]
  rw [← hL] at hB ⊢
  clear hL
  have hmv : IntKind.u64.wrap (IntKind.u64.wrap 65536 - 1) = 65535 := by
    rw [IntKind.wrap_u64, IntKind.wrap_u64]
    decide
  have HLN := Lib.hid hLn
  have HBB := Lib.hid hB
  clear hLn hB
  go_enter Tryz.func167, Tryz.ntmps167
  go_wp2
  go_loop [12, 13, 101] (fun vu vn vi => ∃ (k acc : Nat) (a : Int), vu = .bool false ∧ vn = .int .u64 a ∧ vi = .int .i64 k ∧ k ≤ t.size ∧ Hid (a = (acc : Int) ∧ acc ≤ 65535 ∧ pu bs 0 = pu (bs.drop k) acc))
    (fun _ _ vi => t.size - (intOf vi).toNat)
  case atStart => exact ⟨0, 0, 0, rfl, rfl, rfl, by omega, rfl, by omega, rfl⟩
  case round =>
    obtain ⟨k, acc, a, rfl, rfl, rfl, hk, hh⟩ := hrel
    obtain ⟨ha, hacc, hdec⟩ := hh.out
    clear hh
    have a0 : 0 ≤ a := by omega
    have a1 : a ≤ 65535 := by omega
    have HA := Lib.hid ha
    by_cases hkn : k < t.size
    · have hc := HBB.out k hkn
      have hdrop : bs.drop k = bs[k]'(by have := HLN.out; omega) :: bs.drop (k + 1) := List.drop_eq_getElem_cons (by have := HLN.out; omega)
      have hget : bs.getD k 0 = bs[k]'(by have := HLN.out; omega) := by simp [List.getD, List.getElem?_eq_getElem (show k < bs.length by have := HLN.out; omega)]
      rw [hdrop] at hdec
      rw [hget] at hc
      generalize bs[k]'(by have := HLN.out; omega) = b at hc hdec
      have hb256 : b.toNat < 256 := b.toNat_lt
      obtain ⟨lo1, lo2, lo3⟩ := lo_all b.toNat hb256
      obtain ⟨c, hcc⟩ : ∃ c : Int, c = (b.toNat : Int) := ⟨_, rfl⟩
      rw [← hcc] at hc lo1 lo2 lo3
      have HCC := Lib.hid hcc
      have c0 : 0 ≤ c := by omega
      have c1 : c ≤ 255 := by omega
      clear hdrop hget hcc hb256
      rw [pu_cons] at hdec
      have HDEC := Lib.hid hdec
      clear hdec ha
      -- a digit of value d
      have stp : ∀ d : Nat, d < 16 → hostp.dv (lc b) = some d → (65535 < a * 16 + (d : Int) → Hid (pu bs 0 = .range)) ∧ (¬ 65535 < a * 16 + (d : Int) → Hid (a * 16 + (d : Int) = ((acc * 16 + d : Nat) : Int) ∧ acc * 16 + d ≤ 65535 ∧ pu bs 0 = pu (bs.drop (k + 1)) (acc * 16 + d))) := fun d hd he => by
        have h1 := HDEC.out
        rw [he] at h1
        dsimp only at h1
        have h2 := HA.out
        constructor
        · intro h
          rw [if_pos (by omega)] at h1
          exact h1
        · intro h
          rw [if_neg (by omega)] at h1
          exact ⟨by omega, by omega, h1⟩
      have bad : hostp.dv (lc b) = none → Hid (pu bs 0 = Lib.NumEnd.syntax) := fun he => by
        have h1 := HDEC.out
        rw [he] at h1
        exact h1
      by_cases hdig : 48 ≤ c ∧ c ≤ 57
      · obtain ⟨hd0, hd1⟩ := hdig
        have hs := stp (b.toNat - 48) (by have := HCC.out; omega) (dv_lc_dig (by have := HCC.out; omega))
        rw [show ((b.toNat - 48 : Nat) : Int) = c - 48 by have := HCC.out; omega] at hs
        clear stp bad lo1 lo2 lo3 hacc
        by_cases hov : 65535 < a * 16 + (c - 48)
        · have HF := hs.1 hov
          clear hs
          go_wp2
          go_ret2
          exact ⟨by rw [HF.out]; rfl, rfl⟩
        · have HN := hs.2 hov
          have iov : a * 16 + (c - 48) ≤ 65535 := by omega
          clear hs hov
          go_wp2
          refine ⟨⟨k + 1, _, a * 16 + (c - 48), rfl, (by first | rfl | (congr 1; omega)), (by first | rfl | (congr 1; omega)), by omega, HN⟩, by simp [intOf]; omega⟩
      · by_cases hlet : 65 ≤ c ∧ c ≤ 90 ∨ 97 ≤ c ∧ c ≤ 122
        · obtain ⟨l, hl, hlr, hlv⟩ : ∃ l : Nat, bits .or .u8 c 32 = (l : Int) ∧ (97 ≤ l ∧ l ≤ 122) ∧ hostp.dv (lc b) = if l ≤ 102 then some (l - 87) else none := by
            have h9 := HCC.out
            rcases hlet with h | h
            · exact ⟨b.toNat + 32, by rw [lo1 (by omega)]; omega, by omega, dv_lc_hex (.inl ⟨by omega, by omega, rfl⟩)⟩
            · exact ⟨b.toNat, by rw [lo2 (by omega)]; omega, by omega, dv_lc_hex (.inr ⟨by omega, by omega, rfl⟩)⟩
          obtain ⟨l1, l2⟩ := hlr
          have hcase : c < 48 ∨ 57 < c := by omega
          have q1 : 57 < c := by omega
          have q2 : 48 ≤ c := by omega
          have q3 : (c == 95) = false := beq_eq_false_iff_ne.2 (by omega)
          clear lo1 lo2 lo3 hdig hlet hcase hacc
          by_cases h16 : l ≤ 102
          · rw [if_pos h16] at hlv
            have hs := stp (l - 87) (by omega) hlv
            rw [show ((l - 87 : Nat) : Int) = (l : Int) - 97 + 10 by omega] at hs
            clear stp bad
            by_cases hov : 65535 < a * 16 + ((l : Int) - 97 + 10)
            · have HF := hs.1 hov
              clear hs
              go_wp2_with (first | (go_at_call 171; refine (Tryz.internal_strconv_lower _ _).mono ?_; rintro e w' ⟨rfl, rfl⟩; rw [hl]) | fail)
              go_ret2
              exact ⟨by rw [HF.out]; rfl, rfl⟩
            · have HN := hs.2 hov
              have iov : a * 16 + ((l : Int) - 97 + 10) ≤ 65535 := by omega
              clear hs hov
              go_wp2_with (first | (go_at_call 171; refine (Tryz.internal_strconv_lower _ _).mono ?_; rintro e w' ⟨rfl, rfl⟩; rw [hl]) | fail)
              refine ⟨⟨k + 1, _, a * 16 + ((l : Int) - 97 + 10), rfl, (by first | rfl | (congr 1; omega)), (by first | rfl | (congr 1; omega)), by omega, HN⟩, by simp [intOf]; omega⟩
          · rw [if_neg h16] at hlv
            have HF := bad hlv
            clear stp bad hlv
            go_wp2_with (first | (go_at_call 171; refine (Tryz.internal_strconv_lower _ _).mono ?_; rintro e w' ⟨rfl, rfl⟩; rw [hl]) | fail)
            all_goals
              go_ret2
              exact ⟨by rw [HF.out]; rfl, rfl⟩
        · have HF := bad (by have := HCC.out; exact dv_lc_no (by omega) (by omega) (by omega))
          obtain ⟨lo, hlo⟩ : ∃ lo, lo = bits .or .u8 c 32 := ⟨_, rfl⟩
          have hno := lo3 (by have := HCC.out; omega) (by have := HCC.out; omega)
          rw [← hlo] at hno
          have hlo' := hlo.symm
          clear stp bad lo1 lo2 lo3 hlet hacc hlo
          have hcs : c < 48 ∨ 57 < c := by omega
          clear hdig
          rcases hcs with q | q
          · have q3 : (c == 95) = false := beq_eq_false_iff_ne.2 (by omega)
            have q4 : ¬ 48 ≤ c := by omega
            rcases hno with r | r
            · have r2 : ¬ 97 ≤ lo := by omega
              go_wp2_with (first | (go_at_call 171; refine (Tryz.internal_strconv_lower _ _).mono ?_; rintro e w' ⟨rfl, rfl⟩; rw [hlo']) | fail)
              all_goals
                go_ret2
                exact ⟨by rw [HF.out]; rfl, rfl⟩
            · have r2 : ¬ lo ≤ 122 := by omega
              have r3 : 97 ≤ lo := by omega
              go_wp2_with (first | (go_at_call 171; refine (Tryz.internal_strconv_lower _ _).mono ?_; rintro e w' ⟨rfl, rfl⟩; rw [hlo']) | fail)
              all_goals
                go_ret2
                exact ⟨by rw [HF.out]; rfl, rfl⟩
          · have q4 : 48 ≤ c := by omega
            have q5 : ¬ c ≤ 57 := by omega
            by_cases h95 : c = 95
            · have q3 : (c == 95) = true := beq_iff_eq.2 h95
              clear h95
              rcases hno with r | r
              · have r2 : ¬ 97 ≤ lo := by omega
                go_wp2_with (first | (go_at_call 171; refine (Tryz.internal_strconv_lower _ _).mono ?_; rintro e w' ⟨rfl, rfl⟩; rw [hlo']) | fail)
                all_goals
                  go_ret2
                  exact ⟨by rw [HF.out]; rfl, rfl⟩
              · have r2 : ¬ lo ≤ 122 := by omega
                have r3 : 97 ≤ lo := by omega
                go_wp2_with (first | (go_at_call 171; refine (Tryz.internal_strconv_lower _ _).mono ?_; rintro e w' ⟨rfl, rfl⟩; rw [hlo']) | fail)
                all_goals
                  go_ret2
                  exact ⟨by rw [HF.out]; rfl, rfl⟩
            · have q3 : (c == 95) = false := beq_eq_false_iff_ne.2 h95
              clear h95
              rcases hno with r | r
              · have r2 : ¬ 97 ≤ lo := by omega
                go_wp2_with (first | (go_at_call 171; refine (Tryz.internal_strconv_lower _ _).mono ?_; rintro e w' ⟨rfl, rfl⟩; rw [hlo']) | fail)
                all_goals
                  go_ret2
                  exact ⟨by rw [HF.out]; rfl, rfl⟩
              · have r2 : ¬ lo ≤ 122 := by omega
                have r3 : 97 ≤ lo := by omega
                go_wp2_with (first | (go_at_call 171; refine (Tryz.internal_strconv_lower _ _).mono ?_; rintro e w' ⟨rfl, rfl⟩; rw [hlo']) | fail)
                all_goals
                  go_ret2
                  exact ⟨by rw [HF.out]; rfl, rfl⟩
    · have hkk : k = t.size := by omega
      rw [List.drop_eq_nil_of_le (by rw [HLN.out, hkk]; exact Nat.le_refl _)] at hdec
      have HF := Lib.hid (show pu bs 0 = .ok acc from hdec)
      clear hdec hkk hacc ha
      go_wp2
      go_ret2
      exact ⟨by rw [HF.out, HA.out]; rfl, rfl⟩

end Go.Proofs.YtghdaengkgiekaaGreatDoor.hw
