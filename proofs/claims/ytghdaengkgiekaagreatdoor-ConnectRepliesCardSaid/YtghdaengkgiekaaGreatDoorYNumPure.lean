/-
  Given for the seat's laws: plain facts on numerals: what Parse answers. No program, no memory.
-/
import Derived.Lib.Bytes
import Derived.Test.YtghdaengkgiekaaGreatDoorYMem
import Derived.WalkKit
import Derived.WalkSpells
import Derived.WalkLawsBesides
import Derived.IntWalk
import Derived.Outline
import Derived.WalkMore
import Derived.Deep.CutBlock
import Derived.Deep.DeepCutAuto
import Derived.Deep.LoopGhost
import Derived.Lib.Hide
namespace Go.Proofs.YtghdaengkgiekaaGreatDoor.num
open Go

/-- the value of digits -/
def dv (l : List UInt8) : Nat := l.foldl (fun a c => a * 10 + (c.toNat - 48)) 0
theorem dv_snoc (l : List UInt8) (c : UInt8) : dv (l ++ [c]) = dv l * 10 + (c.toNat - 48) := by simp [dv]
theorem foldl_le : ∀ (m : List UInt8) (a : Nat), a ≤ m.foldl (fun a c => a * 10 + (c.toNat - 48)) a
  | [], a => Nat.le_refl _
  | c :: m, a => Nat.le_trans (show a ≤ a * 10 + (c.toNat - 48) by omega) (foldl_le m _)
theorem dv_append_le (l m : List UInt8) : dv l ≤ dv (l ++ m) := by
  unfold dv
  rw [List.foldl_append]
  exact foldl_le m _
theorem dv_take_le (l : List UInt8) (k : Nat) : dv (l.take k) ≤ dv l := by
  have := dv_append_le (l.take k) (l.drop k)
  rwa [List.take_append_drop] at this
theorem dv_take_succ {l : List UInt8} {k : Nat} {c : UInt8} (h : l[k]? = some c) : dv (l.take (k + 1)) = dv (l.take k) * 10 + (c.toNat - 48) := by
  rw [List.take_add_one, h]
  exact dv_snoc _ _

/-- digits, without a nought ahead -/
def Canon (l : List UInt8) : Prop := l ≠ [] ∧ (∀ c ∈ l, 48 ≤ c.toNat ∧ c.toNat ≤ 57) ∧ (l.length = 1 ∨ l.head? ≠ some 48)
instance (l : List UInt8) : Decidable (Canon l) := inferInstanceAs (Decidable (_ ∧ _ ∧ _))

/-- what Parse answers, within bounds that hold a number -/
def parseF (l : List UInt8) (least greatest : Int) : Int × Int := if Canon l ∧ least ≤ (dv l : Int) ∧ (dv l : Int) ≤ greatest then ((dv l : Int), 0) else (0, 6)

/-- what holds when k bytes have been read -/
structure Pre (l : List UInt8) (greatest : Int) (k : Nat) : Prop where
  le : k ≤ l.length
  dig : ∀ (i : Nat) (c : UInt8), i < k → l[i]? = some c → 48 ≤ c.toNat ∧ c.toNat ≤ 57
  head : 2 ≤ k → l[0]? ≠ some 48
  fit : (dv (l.take k) : Int) ≤ greatest

theorem pre_zero (l : List UInt8) {g : Int} (hg : 0 ≤ g) : Pre l g 0 := ⟨Nat.zero_le _, fun i c h => absurd h (by omega), fun h => absurd h (by omega), by simpa [dv] using hg⟩

theorem pre_step {l : List UInt8} {g : Int} {k : Nat} {c : UInt8} (h : Pre l g k) (hc : l[k]? = some c) (hd : 48 ≤ c.toNat ∧ c.toNat ≤ 57) (h0 : k = 0 ∨ dv (l.take k) ≠ 0) (hg : (dv (l.take k) : Int) * 10 ≤ g - ((c.toNat : Int) - 48)) : Pre l g (k + 1) := by
  have hlt := (List.getElem?_eq_some_iff.1 hc).1
  refine ⟨hlt, fun i d hi hid => ?_, fun hk h48 => ?_, ?_⟩
  · by_cases hik : i = k
    · subst hik
      rw [hc] at hid
      cases hid
      exact hd
    · exact h.dig i d (by omega) hid
  · rcases h0 with h0 | h0
    · omega
    · by_cases hk1 : k = 1
      · subst hk1
        apply h0
        have : l.take 1 = [48] := by
          cases l with
          | nil => simp at h48
          | cons x r => simpa using h48
        rw [this]
        rfl
      · exact h.head (by omega) h48
  · rw [dv_take_succ hc]
    omega

theorem canon_digits {l : List UInt8} (h : Canon l) {k : Nat} {c : UInt8} (hc : l[k]? = some c) : 48 ≤ c.toNat ∧ c.toNat ≤ 57 := h.2.1 c (List.mem_of_getElem? hc)

theorem no_digit {l : List UInt8} {a g : Int} {k : Nat} {c : UInt8} (hc : l[k]? = some c) (hd : ¬ (48 ≤ c.toNat ∧ c.toNat ≤ 57)) : parseF l a g = (0, 6) := if_neg fun h => hd (canon_digits h.1 hc)

theorem dv_pos_of {l : List UInt8} {g : Int} : ∀ {k : Nat}, Pre l g k → 1 ≤ k → l[0]? ≠ some 48 → dv (l.take k) ≠ 0
  | 0, _, h1, _ => absurd h1 (by omega)
  | k + 1, h, _, h48 => by
    have hk := h.le
    obtain ⟨c, hc⟩ : ∃ c, l[k]? = some c := ⟨_, List.getElem?_eq_getElem (by omega)⟩
    rw [dv_take_succ hc]
    cases k with
    | zero =>
      have hd := h.dig 0 c (by omega) hc
      have : c.toNat ≠ 48 := fun e => h48 (by rw [hc]; congr 1; apply UInt8.toNat_inj.1; exact e)
      omega
    | succ k =>
      have h' : Pre l g (k + 1) := ⟨by omega, fun i d hi => h.dig i d (by omega), fun hk2 => h.head (by omega), by
        have := h.fit
        rw [dv_take_succ hc] at this
        omega⟩
      have := dv_pos_of h' (by omega) h48
      omega

/-- a nought ahead of more -/
theorem nought {l : List UInt8} {a g : Int} {k : Nat} {c : UInt8} (h : Pre l g k) (hc : l[k]? = some c) (hk : 1 ≤ k) (h0 : dv (l.take k) = 0) : parseF l a g = (0, 6) := if_neg fun hcn => by
  have hlt := (List.getElem?_eq_some_iff.1 hc).1
  have h48 : l[0]? = some 48 := Classical.byContradiction fun hne => dv_pos_of h hk hne h0
  rcases hcn.1.2.2 with h1 | h1
  · omega
  · exact h1 (by rw [List.head?_eq_getElem?]; exact h48)

/-- too great -/
theorem great {l : List UInt8} {a g : Int} {k : Nat} {c : UInt8} (hc : l[k]? = some c) (hd : 48 ≤ c.toNat ∧ c.toNat ≤ 57) (hg : g - ((c.toNat : Int) - 48) < (dv (l.take k) : Int) * 10) : parseF l a g = (0, 6) := if_neg fun hcn => by
  have := dv_take_le l (k + 1)
  rw [dv_take_succ hc] at this
  have := hcn.2.2
  omega

theorem canon_of_pre {l : List UInt8} {g : Int} (h : Pre l g l.length) (hne : l ≠ []) : Canon l :=
  ⟨hne, fun c hc => by
    obtain ⟨i, hi⟩ := List.getElem?_of_mem hc
    exact h.dig i c (List.getElem?_eq_some_iff.1 hi).1 hi, by
    by_cases h1 : l.length = 1
    · exact .inl h1
    · refine .inr fun e => ?_
      rw [List.head?_eq_getElem?] at e
      have : l.length ≠ 0 := fun e0 => hne (List.eq_nil_of_length_eq_zero e0)
      exact h.head (by omega) e⟩

theorem all_read {l : List UInt8} {a g : Int} (h : Pre l g l.length) (hne : l ≠ []) (ha : a ≤ (dv l : Int)) : parseF l a g = ((dv l : Int), 0) :=
  if_pos ⟨canon_of_pre h hne, ha, by have := h.fit; rwa [List.take_length] at this⟩
theorem too_small {l : List UInt8} {a g : Int} (ha : (dv l : Int) < a) : parseF l a g = (0, 6) := if_neg fun h => by have := h.2.1; omega
theorem empty_no {a g : Int} : parseF [] a g = (0, 6) := if_neg fun h => h.1.1 rfl

end Go.Proofs.YtghdaengkgiekaaGreatDoor.num

/-
  Given for the seat's laws: the contract of Parse. No condition but those of the theorems.
-/
namespace Go.Proofs.YtghdaengkgiekaaGreatDoor.parse
open Go.RowKit mem num
set_option linter.unusedVariables false

set_option maxHeartbeats 400000 in
theorem parse_arg (s : ByteArray) (a g : Int) (h : a < 0 ∨ g < a) (w : World) : Calls Tryz.prog 110 #[.string s, .int .i64 a, .int .i64 g] w fun e w' => e = .returned (.tuple #[.int .i64 0, .int .i64 2]) ∧ w = w' := by
  by_cases h0 : a < 0
  · go_enter Tryz.func110, Tryz.ntmps110
    go_wp2
    go_step3
    go_wp2
    rw [Exit.noGoto_ret]
    go_ret2
    exact ⟨rfl, rfl⟩
  · have h1 : g < a := by omega
    clear h
    go_enter Tryz.func110, Tryz.ntmps110
    go_wp2
    go_step3
    go_wp2
    rw [Exit.noGoto_ret]
    go_ret2
    exact ⟨rfl, rfl⟩

/-- what Parse answers, as the statements have it -/
def Parses (l : List UInt8) (a g : Int) (w : World) (e : Ending) (w' : World) : Prop := e = .returned (.tuple #[.int .i64 (parseF l a g).1, .int .i64 (parseF l a g).2]) ∧ w = w'

theorem byte_at {s : ByteArray} {k : Nat} (h : k < s.size) : s.data.toList[k]? = some s[k] := by
  rw [Array.getElem?_toList, Array.getElem?_eq_getElem (show k < s.data.size from h)]
  rfl

set_option maxHeartbeats 2000000 in
theorem parse_in (s : ByteArray) (a g : Int) (hs : s.size ≤ 3000) (h0 : 0 ≤ a) (h1 : a ≤ g) (hg : g ≤ 9223372036854775807) (w : World) :
    Calls Tryz.prog 110 #[.string s, .int .i64 a, .int .i64 g] w (Parses s.data.toList a g w) := by
  have HG := Lib.hid hg
  have HP := Lib.hid (pre_zero s.data.toList (show 0 ≤ g by omega))
  have hl : s.data.toList.length = s.size := by simp
  have HL := Lib.hid hl
  clear hg hl
  go_enter Tryz.func110, Tryz.ntmps110
  go_wp2
  go_step3
  go_wp2
  go_step3
  go_wp2
  go_loopg [8, 9] s.size (fun gh s8 s9 wx => ∃ (k : Nat) (v : Int), k + gh = s.size ∧ s9 = .int .i64 (k : Int) ∧ s8 = .int .i64 v ∧ 0 ≤ v ∧ v ≤ g ∧ w = wx ∧ Hid (Pre s.data.toList g k ∧ v = (dv (s.data.toList.take k) : Int)))
  case atStart => exact ⟨0, 0, by omega, rfl, rfl, by omega, by omega, rfl, ⟨HP.out, rfl⟩⟩
  case round =>
    clear HP
    obtain ⟨k, v, hkg, rfl, rfl, hv0, hvg, rfl, HR⟩ := hrel
    by_cases hlt : k < s.size
    · have hc := byte_at hlt
      have HC := Lib.hid hc
      clear hc
      go_upto_block 2 with fail
      have hb : s[k].toNat < 256 := s[k].toNat_lt
      have e28 : wrap64 (wrap64 (s[k].toNat : Int) - 48) = (s[k].toNat : Int) - 48 := by unfold wrap64; omega
      rw [e28]
      obtain ⟨d, hd⟩ : ∃ d : Int, d = (s[k].toNat : Int) - 48 := ⟨_, rfl⟩
      rw [← hd]
      have HD := Lib.hid hd
      have hd0 : -48 ≤ d := by omega
      have hd1 : d ≤ 207 := by omega
      clear e28 hb hd
      by_cases hA : d < 0
      · have HF := Lib.hid (no_digit (a := a) (g := g) HC.out (by have := HD.out; omega))
        go_wp2
        all_goals ((try rw [Exit.noGoto_ret]); go_ret2; exact ⟨by rw [HF.out]; rfl, rfl⟩)
      · by_cases hB : 9 < d
        · have HF := Lib.hid (no_digit (a := a) (g := g) HC.out (by have := HD.out; omega))
          go_wp2
          all_goals ((try rw [Exit.noGoto_ret]); go_ret2; exact ⟨by rw [HF.out]; rfl, rfl⟩)
        · by_cases hC : 0 < k ∧ v = 0
          · obtain ⟨hk0, rfl⟩ := hC
            have HF := Lib.hid (nought (a := a) HR.out.1 HC.out hk0 (by have := HR.out.2; omega))
            go_wp2
            all_goals ((try rw [Exit.noGoto_ret]); go_ret2; exact ⟨by rw [HF.out]; rfl, rfl⟩)
          · have etd : wrap64 (g.tdiv 10) = g / 10 := by
              have := HG.out
              rw [Int.tdiv_eq_ediv_of_nonneg (by omega)]
              unfold wrap64
              omega
            by_cases hE : g / 10 < v
            · have HF := Lib.hid (great (a := a) (g := g) HC.out (by have := HD.out; omega) (by have := HD.out; have := HR.out.2; omega))
              rcases Nat.eq_zero_or_pos k with hk0 | hk0
              · exfalso
                have := HR.out.2
                rw [hk0] at this
                simp [dv] at this
                omega
              · have hv1 : ((v : Int) == 0) = false := beq_eq_false_iff_ne.2 (by omega)
                clear hC
                go_wp2
                all_goals ((try rw [Exit.noGoto_ret]); go_ret2; exact ⟨by rw [HF.out]; rfl, rfl⟩)
            · have ew : wrap64 (v * 10) = v * 10 := by have := HG.out; unfold wrap64; omega
              have ew2 : wrap64 (g - d) = g - d := by have := HG.out; unfold wrap64; omega
              by_cases hI : g - d < v * 10
              · have HF := Lib.hid (great (a := a) (g := g) HC.out (by have := HD.out; omega) (by have := HD.out; have := HR.out.2; omega))
                rcases Nat.eq_zero_or_pos k with hk0 | hk0
                · subst hk0
                  clear hC
                  go_wp2
                  all_goals ((try rw [Exit.noGoto_ret]); go_ret2; exact ⟨by rw [HF.out]; rfl, rfl⟩)
                · have hv1 : ((v : Int) == 0) = false := beq_eq_false_iff_ne.2 (by omega)
                  clear hC
                  go_wp2
                  all_goals ((try rw [Exit.noGoto_ret]); go_ret2; exact ⟨by rw [HF.out]; rfl, rfl⟩)
              · have ew3 : wrap64 (v * 10 + d) = v * 10 + d := by have := HG.out; unfold wrap64; omega
                have hP : Pre s.data.toList g (k + 1) ∧ v * 10 + d = (dv (s.data.toList.take (k + 1)) : Int) := by
                  have h2 := HR.out.2
                  have h3 := HD.out
                  refine ⟨pre_step HR.out.1 HC.out (by omega) (by omega) (by omega), ?_⟩
                  rw [dv_take_succ HC.out]
                  omega
                have HP := Lib.hid hP
                have hn0 : 0 ≤ v * 10 + d := by omega
                have hn1 : v * 10 + d ≤ g := by omega
                clear hP
                rcases Nat.eq_zero_or_pos k with hk0 | hk0
                · subst hk0
                  clear hC
                  go_wp2
                  all_goals
                    go_roundg (s.size - 1)
                    case measure => omega
                    case rel => exact ⟨1, v * 10 + d, by omega, by go_num, rfl, hn0, hn1, rfl, HP⟩
                · have hv1 : ((v : Int) == 0) = false := beq_eq_false_iff_ne.2 (by omega)
                  clear hC
                  go_wp2
                  all_goals
                    go_roundg (s.size - (k + 1))
                    case measure => omega
                    case rel => exact ⟨k + 1, v * 10 + d, by omega, by go_num, rfl, hn0, hn1, rfl, HP⟩
    · obtain rfl : k = s.size := by omega
      have hpr : Pre s.data.toList g s.data.toList.length := by rw [HL.out]; exact HR.out.1
      have hvl : v = (dv s.data.toList : Int) := by
        have := HR.out.2
        rwa [List.take_of_length_le (by rw [HL.out]; omega)] at this
      by_cases hz : s.size = 0
      · obtain rfl : s = ⟨#[]⟩ := by
          cases s with
          | mk d => congr 1; exact Array.eq_empty_of_size_eq_zero hz
        have HF := Lib.hid (empty_no (a := a) (g := g))
        clear hpr hvl HR HL hz
        go_wp2
        all_goals ((try rw [Exit.noGoto_ret]); go_ret2; exact ⟨by show _ = Ending.returned (.tuple #[.int .i64 (parseF [] a g).1, .int .i64 (parseF [] a g).2]); rw [HF.out]; rfl, rfl⟩)
      · have hne : s.data.toList ≠ [] := fun e => by have := HL.out; rw [e] at this; simp at this; omega
        have e1 : s.toList.isEmpty = false := by rw [Lib.toList_data, List.isEmpty_eq_false_iff]; exact hne
        have e2 : ¬ s.toList = [] := by rw [Lib.toList_data]; exact hne
        by_cases hva : v < a
        · have HF := Lib.hid (too_small (g := g) (show (dv s.data.toList : Int) < a by omega))
          clear hpr hvl hne
          go_wp2
          all_goals ((try rw [Exit.noGoto_ret]); go_ret2; exact ⟨by rw [HF.out]; rfl, rfl⟩)
        · have hf := all_read hpr hne (show a ≤ (dv s.data.toList : Int) by omega)
          rw [← hvl] at hf
          have HF := Lib.hid hf
          clear hpr hvl hne hf
          go_wp2
          all_goals ((try rw [Exit.noGoto_ret]); go_ret2; exact ⟨by rw [HF.out]; rfl, rfl⟩)

end Go.Proofs.YtghdaengkgiekaaGreatDoor.parse
