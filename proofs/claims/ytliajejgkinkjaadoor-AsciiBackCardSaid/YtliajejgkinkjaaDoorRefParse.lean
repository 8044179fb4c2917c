/-
  Given for the seat's laws: the contract of the document's own Parse. No condition but those of the theorems.
-/
import Derived.Test.YtliajejgkinkjaaDoorNumber
namespace Go.Proofs.YtliajejgkinkjaaDoor.number
open Go.RowKit mem num parse
set_option linter.unusedVariables false

set_option maxHeartbeats 400000 in
theorem rparse_arg (s : ByteArray) (a g : Int) (h : a < 0 ∨ g < a) (w : World) : Calls Tryd.prog 8 #[.string s, .int .i64 a, .int .i64 g] w fun e w' => e = .returned (.tuple #[.int .i64 0, .int .i64 2]) ∧ w = w' := by
  by_cases h0 : a < 0
  · go_enter Tryd.func8, Tryd.ntmps8
    go_wp2
    go_ret2
    exact ⟨rfl, rfl⟩
  · have h1 : g < a := by omega
    clear h
    go_enter Tryd.func8, Tryd.ntmps8
    go_wp2
    go_ret2
    exact ⟨rfl, rfl⟩

theorem wrap_step {V : Nat} {v c : Int} (hv : v = wrap64 (V : Int)) (hc : 48 ≤ c) : wrap64 (wrap64 (wrap64 (10 * v) + c) - 48) = wrap64 ((V * 10 + (c.toNat - 48) : Nat) : Int) := by
  subst hv
  have e : ((V * 10 + (c.toNat - 48) : Nat) : Int) = (V : Int) * 10 + (c - 48) := by omega
  rw [e]
  unfold wrap64
  omega

set_option maxHeartbeats 2000000 in
theorem rparse_in (s : ByteArray) (a g : Int) (hs : s.size ≤ 1000) (h0 : 0 ≤ a) (h1 : a ≤ g) (hg : g ≤ 9223372036854775807) (w : World) :
    Calls Tryd.prog 8 #[.string s, .int .i64 a, .int .i64 g] w (Parses s.data.toList a g w) := by
  have hl : s.data.toList.length = s.size := by simp
  by_cases hz : s.size = 0
  · have HF := Lib.hid (show parseF s.data.toList a g = (0, 6) by rw [List.eq_nil_of_length_eq_zero (show s.data.toList.length = 0 by omega)]; exact empty_no)
    have hz1 : ((s.size : Int) == 0) = true := by rw [hz]; rfl
    clear hl hg
    go_enter Tryd.func8, Tryd.ntmps8
    go_wp2
    go_ret2
    exact ⟨by rw [HF.out]; rfl, rfl⟩
  · by_cases h19 : 19 < s.size
    · have HF := Lib.hid (parse_long (a := a) (l := s.data.toList) (by omega) hg)
      have hz1 : ((s.size : Int) == 0) = false := beq_eq_false_iff_ne.2 (by omega)
      clear hl hg hz
      go_enter Tryd.func8, Tryd.ntmps8
      go_wp2
      go_ret2
      exact ⟨by rw [HF.out]; rfl, rfl⟩
    · have hz1 : ((s.size : Int) == 0) = false := beq_eq_false_iff_ne.2 (by omega)
      have HG := Lib.hid hg
      have HL := Lib.hid hl
      have HZ := Lib.hid hz
      clear hg hl hz
      go_enter Tryd.func8, Tryd.ntmps8
      go_wp2
      go_loop [8, 9] (fun n i => ∃ (k : Nat) (v : Int), k ≤ s.size ∧ i = .int .i64 (k : Int) ∧ n = .int .i64 v ∧ Hid (Digits (s.data.toList.take k) ∧ v = wrap64 (dv (s.data.toList.take k) : Int))) (fun _ i => s.size - (intOf i).toNat)
      case atStart => exact ⟨0, 0, by omega, rfl, rfl, Lib.hid ⟨fun c hc => by simp at hc, by rw [List.take_zero]; show (0 : Int) = wrap64 ((0 : Nat) : Int); unfold wrap64; omega⟩⟩
      case round =>
        obtain ⟨k, v, hk, rfl, rfl, HR⟩ := hrel
        by_cases hlt : k < s.size
        · obtain ⟨b, hb⟩ : ∃ b : UInt8, b = s[k] := ⟨_, rfl⟩
          have HK := Lib.hid (show s.data.toList[k]? = some b by rw [parse.byte_at hlt, hb])
          have hc0 : (s[k].toNat : Int) = (b.toNat : Int) := by rw [hb]
          obtain ⟨c, hcc⟩ : ∃ c : Int, (b.toNat : Int) = c := ⟨_, rfl⟩
          rw [hcc] at hc0
          have HC := Lib.hid hcc
          have hc255 : c < 256 := by have := b.toNat_lt; omega
          clear hb hcc
          by_cases hA : c < 48
          · have HF := Lib.hid (no_digit (a := a) (g := g) HK.out (by have := HC.out; omega))
            go_wp2
            go_ret2
            exact ⟨by rw [HF.out]; rfl, rfl⟩
          · by_cases hB : 57 < c
            · have HF := Lib.hid (no_digit (a := a) (g := g) HK.out (by have := HC.out; omega))
              go_wp2
              go_ret2
              exact ⟨by rw [HF.out]; rfl, rfl⟩
            · have ew0 : wrap64 c = c := by unfold wrap64; omega
              have HN := Lib.hid (show Digits (s.data.toList.take (k + 1)) ∧ wrap64 (wrap64 (wrap64 (10 * v) + c) - 48) = wrap64 (dv (s.data.toList.take (k + 1)) : Int) by
                refine ⟨fun d hd => ?_, ?_⟩
                · rw [List.take_add_one, HK.out] at hd
                  rcases List.mem_append.1 hd with hd | hd
                  · exact HR.out.1 d hd
                  · obtain rfl : d = b := by simpa using hd
                    have := HC.out
                    omega
                · rw [wrap_step HR.out.2 (by omega), dv_take_succ HK.out]
                  have := HC.out
                  congr 2
                  omega)
              go_wp2
              go_round
              case rel => exact ⟨k + 1, _, by omega, by go_num, rfl, HN⟩
              case measure =>
                show s.size - ((k : Int) + 1).toNat < s.size - ((k : Int)).toNat
                omega
        · obtain rfl : k = s.size := by omega
          have htl : s.data.toList.take s.size = s.data.toList := List.take_of_length_le (by rw [HL.out]; exact Nat.le_refl _)
          have hd := HR.out
          rw [htl] at hd
          obtain ⟨V, hV⟩ : ∃ V : Nat, V = dv s.data.toList := ⟨_, rfl⟩
          have hVl := dv_lt s.size s.data.toList HL.out hd.1
          have hV19 : V < 10000000000000000000 := by
            have hle : (10 : Nat) ^ s.size ≤ 10 ^ 19 := Nat.pow_le_pow_right (by omega) (by omega)
            omega
          have hv := hd.2
          rw [← hV] at hv
          have HD := Lib.hid hd.1
          have HV := Lib.hid hV
          have hcase : ((V : Int) ≤ 9223372036854775807 ∧ v = (V : Int)) ∨ (9223372036854775807 < (V : Int) ∧ v < 0) := by
            unfold wrap64 at hv
            omega
          clear hd htl hVl hV hv hV19 HR
          rcases hcase with ⟨hc1, rfl⟩ | ⟨hc1, hc2⟩
          · have HNN := Lib.hid (rnumber_any (V : Int) (by omega) hc1 w)
            have HC1 := Lib.hid hc1
            clear hc1
            by_cases heq : Lib.decDigits V = s.data.toList
            · have hown : decS V = s := by
                apply ByteArray.ext
                apply Array.toList_inj.1
                rw [decS_list, heq]
              have hself : (s.toList == s.toList) = true := beq_self_eq_true _
              have hself2 : (s.toList != s.toList) = false := by simp
              rw [Int.toNat_natCast, hown] at HNN
              have heq' : Lib.decDigits (dv s.data.toList) = s.data.toList := by rw [← HV.out]; exact heq
              have HQ := Lib.hid heq'
              clear hown heq heq'
              by_cases hva : (V : Int) < a
              · have HF := Lib.hid (too_small (g := g) (l := s.data.toList) (a := a) (by rw [← HV.out]; exact hva))
                go_wp2_with fail
                refine HNN.out.mono ?_
                rintro e w' ⟨rfl, rfl⟩
                go_wp2
                go_ret2
                exact ⟨by rw [HF.out]; rfl, rfl⟩
              · by_cases hvg : g < (V : Int)
                · have HF := Lib.hid (parse_over (a := a) (l := s.data.toList) (g := g) (by rw [← HV.out]; exact hvg))
                  go_wp2_with fail
                  refine HNN.out.mono ?_
                  rintro e w' ⟨rfl, rfl⟩
                  go_wp2
                  go_ret2
                  exact ⟨by rw [HF.out]; rfl, rfl⟩
                · have hf := parse_yes (a := a) (g := g) HQ.out (by rw [← HV.out]; omega) (by rw [← HV.out]; omega)
                  rw [← HV.out] at hf
                  have HF := Lib.hid hf
                  clear hf
                  go_wp2_with fail
                  refine HNN.out.mono ?_
                  rintro e w' ⟨rfl, rfl⟩
                  go_wp2
                  go_ret2
                  exact ⟨by rw [HF.out]; rfl, rfl⟩
            · have HF := Lib.hid (parse_not (a := a) (g := g) (l := s.data.toList) (by rw [← HV.out]; exact heq))
              rw [Int.toNat_natCast] at HNN
              have hne : (decS V).toList ≠ s.toList := fun e => by
                rw [Lib.toList_data, Lib.toList_data, decS_list] at e
                exact heq e
              have hself : ((decS V).toList == s.toList) = false := beq_eq_false_iff_ne.2 hne
              have hself2 : ((decS V).toList != s.toList) = true := by rw [bne_iff_ne]; exact hne
              obtain ⟨t, ht⟩ : ∃ t, t = decS V := ⟨_, rfl⟩
              rw [← ht] at HNN hself hself2
              clear hne heq ht
              go_wp2_with fail
              refine HNN.out.mono ?_
              rintro e w' ⟨rfl, rfl⟩
              go_wp2
              go_ret2
              exact ⟨by rw [HF.out]; rfl, rfl⟩
          · have HNN := Lib.hid (rnumber_neg v hc2 w)
            have HF := Lib.hid (parse_over (a := a) (l := s.data.toList) (g := g) (by rw [← HV.out]; have := HG.out; omega))
            clear hc1
            go_wp2_with fail
            refine HNN.out.mono ?_
            rintro e w' ⟨rfl, rfl⟩
            go_wp2
            go_ret2
            exact ⟨by rw [HF.out]; rfl, rfl⟩

end Go.Proofs.YtliajejgkinkjaaDoor.number
