/-
  Given for the seat's laws: the contract of Parse. No condition but those of the theorems.
-/
import Derived.Test.YtefpplkoohnfbabGreatDoorNumPure
import Derived.Test.YtefpplkoohnfbabGreatDoorMem
import Derived.WalkKit
import Derived.WalkSpells
import Derived.WalkLawsBesides
import Derived.IntWalk
import Derived.Outline
import Derived.WalkMore
import Derived.Deep.CutBlock
import Derived.Deep.DeepCutAuto
import Derived.Deep.LoopGhost
import Derived.Lib.Hide
namespace Go.Proofs.YtefpplkoohnfbabGreatDoor.parse
open Go.RowKit mem num
set_option linter.unusedVariables false

set_option maxHeartbeats 400000 in
theorem parse_arg (s : ByteArray) (a g : Int) (h : a < 0 ∨ g < a) (w : World) : Calls Tryz.prog 43 #[.string s, .int .i64 a, .int .i64 g] w fun e w' => e = .returned (.tuple #[.int .i64 0, .int .i64 2]) ∧ w = w' := by
  by_cases h0 : a < 0
  · go_enter Tryz.func43, Tryz.ntmps43
    go_wp2
    go_step3
    go_wp2
    rw [Exit.noGoto_ret]
    go_ret2
    exact ⟨rfl, rfl⟩
  · have h1 : g < a := by omega
    clear h
    go_enter Tryz.func43, Tryz.ntmps43
    go_wp2
    go_step3
    go_wp2
    rw [Exit.noGoto_ret]
    go_ret2
    exact ⟨rfl, rfl⟩

/-- what Parse answers, as the statements have it -/
def Parses (l : List UInt8) (a g : Int) (w : World) (e : Ending) (w' : World) : Prop := e = .returned (.tuple #[.int .i64 (parseF l a g).1, .int .i64 (parseF l a g).2]) ∧ w = w'

theorem byte_at {s : ByteArray} {k : Nat} (h : k < s.size) : s.data.toList[k]? = some s[k] := by
  rw [Array.getElem?_toList, Array.getElem?_eq_getElem (show k < s.data.size from h)]
  rfl

set_option maxHeartbeats 2000000 in
theorem parse_in (s : ByteArray) (a g : Int) (hs : s.size ≤ 3000) (h0 : 0 ≤ a) (h1 : a ≤ g) (hg : g ≤ 9223372036854775807) (w : World) :
    Calls Tryz.prog 43 #[.string s, .int .i64 a, .int .i64 g] w (Parses s.data.toList a g w) := by
  have HG := Lib.hid hg
  have HP := Lib.hid (pre_zero s.data.toList (show 0 ≤ g by omega))
  have hl : s.data.toList.length = s.size := by simp
  have HL := Lib.hid hl
  clear hg hl
  go_enter Tryz.func43, Tryz.ntmps43
  go_wp2
  go_step3
  go_wp2
  go_step3
  go_wp2
  go_loopg [8, 9] s.size (fun gh s8 s9 wx => ∃ (k : Nat) (v : Int), k + gh = s.size ∧ s9 = .int .i64 (k : Int) ∧ s8 = .int .i64 v ∧ 0 ≤ v ∧ v ≤ g ∧ w = wx ∧ Hid (Pre s.data.toList g k ∧ v = (dv (s.data.toList.take k) : Int)))
  case atStart => exact ⟨0, 0, by omega, rfl, rfl, by omega, by omega, rfl, ⟨HP.out, rfl⟩⟩
  case round =>
    clear HP
    obtain ⟨k, v, hkg, rfl, rfl, hv0, hvg, rfl, HR⟩ := hrel
    by_cases hlt : k < s.size
    · have hc := byte_at hlt
      have HC := Lib.hid hc
      clear hc
      go_upto_block 2 with fail
      have hb : s[k].toNat < 256 := s[k].toNat_lt
      have e28 : wrap64 (wrap64 (s[k].toNat : Int) - 48) = (s[k].toNat : Int) - 48 := by unfold wrap64; omega
      rw [e28]
      obtain ⟨d, hd⟩ : ∃ d : Int, d = (s[k].toNat : Int) - 48 := ⟨_, rfl⟩
      rw [← hd]
      have HD := Lib.hid hd
      have hd0 : -48 ≤ d := by omega
      have hd1 : d ≤ 207 := by omega
      clear e28 hb hd
      by_cases hA : d < 0
      · have HF := Lib.hid (no_digit (a := a) (g := g) HC.out (by have := HD.out; omega))
        go_wp2
        all_goals ((try rw [Exit.noGoto_ret]); go_ret2; exact ⟨by rw [HF.out]; rfl, rfl⟩)
      · by_cases hB : 9 < d
        · have HF := Lib.hid (no_digit (a := a) (g := g) HC.out (by have := HD.out; omega))
          go_wp2
          all_goals ((try rw [Exit.noGoto_ret]); go_ret2; exact ⟨by rw [HF.out]; rfl, rfl⟩)
        · by_cases hC : 0 < k ∧ v = 0
          · obtain ⟨hk0, rfl⟩ := hC
            have HF := Lib.hid (nought (a := a) HR.out.1 HC.out hk0 (by have := HR.out.2; omega))
            go_wp2
            all_goals ((try rw [Exit.noGoto_ret]); go_ret2; exact ⟨by rw [HF.out]; rfl, rfl⟩)
          · have etd : wrap64 (g.tdiv 10) = g / 10 := by
              have := HG.out
              rw [Int.tdiv_eq_ediv_of_nonneg (by omega)]
              unfold wrap64
              omega
            by_cases hE : g / 10 < v
            · have HF := Lib.hid (great (a := a) (g := g) HC.out (by have := HD.out; omega) (by have := HD.out; have := HR.out.2; omega))
              rcases Nat.eq_zero_or_pos k with hk0 | hk0
              · exfalso
                have := HR.out.2
                rw [hk0] at this
                simp [dv] at this
                omega
              · have hv1 : ((v : Int) == 0) = false := beq_eq_false_iff_ne.2 (by omega)
                clear hC
                go_wp2
                all_goals ((try rw [Exit.noGoto_ret]); go_ret2; exact ⟨by rw [HF.out]; rfl, rfl⟩)
            · have ew : wrap64 (v * 10) = v * 10 := by have := HG.out; unfold wrap64; omega
              have ew2 : wrap64 (g - d) = g - d := by have := HG.out; unfold wrap64; omega
              by_cases hI : g - d < v * 10
              · have HF := Lib.hid (great (a := a) (g := g) HC.out (by have := HD.out; omega) (by have := HD.out; have := HR.out.2; omega))
                rcases Nat.eq_zero_or_pos k with hk0 | hk0
                · subst hk0
                  clear hC
                  go_wp2
                  all_goals ((try rw [Exit.noGoto_ret]); go_ret2; exact ⟨by rw [HF.out]; rfl, rfl⟩)
                · have hv1 : ((v : Int) == 0) = false := beq_eq_false_iff_ne.2 (by omega)
                  clear hC
                  go_wp2
                  all_goals ((try rw [Exit.noGoto_ret]); go_ret2; exact ⟨by rw [HF.out]; rfl, rfl⟩)
              · have ew3 : wrap64 (v * 10 + d) = v * 10 + d := by have := HG.out; unfold wrap64; omega
                have hP : Pre s.data.toList g (k + 1) ∧ v * 10 + d = (dv (s.data.toList.take (k + 1)) : Int) := by
                  have h2 := HR.out.2
                  have h3 := HD.out
                  refine ⟨pre_step HR.out.1 HC.out (by omega) (by omega) (by omega), ?_⟩
                  rw [dv_take_succ HC.out]
                  omega
                have HP := Lib.hid hP
                have hn0 : 0 ≤ v * 10 + d := by omega
                have hn1 : v * 10 + d ≤ g := by omega
                clear hP
                rcases Nat.eq_zero_or_pos k with hk0 | hk0
                · subst hk0
                  clear hC
                  go_wp2
                  all_goals
                    go_roundg (s.size - 1)
                    case measure => omega
                    case rel => exact ⟨1, v * 10 + d, by omega, by go_num, rfl, hn0, hn1, rfl, HP⟩
                · have hv1 : ((v : Int) == 0) = false := beq_eq_false_iff_ne.2 (by omega)
                  clear hC
                  go_wp2
                  all_goals
                    go_roundg (s.size - (k + 1))
                    case measure => omega
                    case rel => exact ⟨k + 1, v * 10 + d, by omega, by go_num, rfl, hn0, hn1, rfl, HP⟩
    · obtain rfl : k = s.size := by omega
      have hpr : Pre s.data.toList g s.data.toList.length := by rw [HL.out]; exact HR.out.1
      have hvl : v = (dv s.data.toList : Int) := by
        have := HR.out.2
        rwa [List.take_of_length_le (by rw [HL.out]; omega)] at this
      by_cases hz : s.size = 0
      · obtain rfl : s = ⟨#[]⟩ := by
          cases s with
          | mk d => congr 1; exact Array.eq_empty_of_size_eq_zero hz
        have HF := Lib.hid (empty_no (a := a) (g := g))
        clear hpr hvl HR HL hz
        go_wp2
        all_goals ((try rw [Exit.noGoto_ret]); go_ret2; exact ⟨by show _ = Ending.returned (.tuple #[.int .i64 (parseF [] a g).1, .int .i64 (parseF [] a g).2]); rw [HF.out]; rfl, rfl⟩)
      · have hne : s.data.toList ≠ [] := fun e => by have := HL.out; rw [e] at this; simp at this; omega
        have e1 : s.toList.isEmpty = false := by rw [Lib.toList_data, List.isEmpty_eq_false_iff]; exact hne
        have e2 : ¬ s.toList = [] := by rw [Lib.toList_data]; exact hne
        by_cases hva : v < a
        · have HF := Lib.hid (too_small (g := g) (show (dv s.data.toList : Int) < a by omega))
          clear hpr hvl hne
          go_wp2
          all_goals ((try rw [Exit.noGoto_ret]); go_ret2; exact ⟨by rw [HF.out]; rfl, rfl⟩)
        · have hf := all_read hpr hne (show a ≤ (dv s.data.toList : Int) by omega)
          rw [← hvl] at hf
          have HF := Lib.hid hf
          clear hpr hvl hne hf
          go_wp2
          all_goals ((try rw [Exit.noGoto_ret]); go_ret2; exact ⟨by rw [HF.out]; rfl, rfl⟩)

end Go.Proofs.YtefpplkoohnfbabGreatDoor.parse
