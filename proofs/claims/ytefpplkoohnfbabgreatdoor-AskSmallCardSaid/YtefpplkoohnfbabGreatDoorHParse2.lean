/-
  Given for the seat's laws: the contract of host.Parse at a name, and whole. No condition but those of the theorems.
-/
import Derived.Test.YtefpplkoohnfbabGreatDoorHParse
namespace Go.Proofs.YtefpplkoohnfbabGreatDoor.hw
open Go.RowKit mem hostp
set_option linter.unusedVariables false

theorem lowS_low (s : ByteArray) : lower.lowS s = S (low s.data.toList) := by
  unfold lower.lowS lower.lowL S low
  have : lower.lowc = lc := by funext c; rfl
  rw [this]

set_option maxRecDepth 100000 in
set_option maxHeartbeats 1600000 in
theorem parseK3 (s : ByteArray) (hs : s.size ≤ 3000) (w : World) (he : Env w) (hk : kindF s.data.toList = 3) :
    Calls Tryz.prog 23 #[.string s] w (Gives (hostV 3 (if nameB (low s.data.toList) then some (S (low s.data.toList)) else none)) w) := by
  obtain ⟨w0, hw0⟩ : ∃ w0, w0 = w.alloc (.cells #[.int .u8 0, .string ⟨#[]⟩] 23) := ⟨_, rfl⟩
  have l0 : Lies w0 w.heap.size 23 #[.int .u8 0, .string ⟨#[]⟩] := by rw [hw0]; exact Lies.new _ _ _
  have hb0 : Below w.heap.size w w0 := by rw [hw0]; exact (Below.refl _ w).alloc (Nat.le_refl _) _
  have hkd := kindOf_any s hs w0 (he.below hb0)
  rw [hk] at hkd
  have hlo := fun W => lower.lower_any s hs W
  unfold lower.Lowered at hlo
  rw [lowS_low] at hlo
  obtain ⟨t, ht⟩ : ∃ t, t = S (low s.data.toList) := ⟨_, rfl⟩
  have hnm := fun W => isName_any (S (low s.data.toList)) W
  rw [S_list] at hnm
  rw [← ht] at hlo hnm
  obtain ⟨q, hq⟩ : ∃ q, q = nameB (low s.data.toList) := ⟨_, rfl⟩
  rw [← hq] at hnm
  rw [← hq, ← ht]
  clear hq ht
  obtain ⟨o, ho⟩ : ∃ o, o = (if q = true then some t else none) := ⟨_, rfl⟩
  rw [← ho]
  have HO := Bx.mk ho
  clear ho
  have HKD := Bx.mk hkd
  have HLO := Bx.mk hlo
  have HNM := Bx.mk hnm
  have L0 := Bx.mk l0
  have HB0 := Bx.mk hb0
  obtain ⟨hr, hhr⟩ : ∃ hr, hr = w.heap.size := ⟨_, rfl⟩
  have hrw : w.heap.size ≤ hr := by omega
  clear hkd hlo hnm he l0 hb0 hk
  go_enter Tryz.func23, Tryz.ntmps23
  go_upto_region 1 with fail
  rw [← hw0]
  clear hw0
  go_wp2_with fail
  refine HKD.out.mono ?_
  rintro e w1 ⟨rfl, hb1⟩
  have hl1 := L0.out.below hb1 L0.out.lt
  have hb1' := HB0.out.trans (hb1.mono HB0.out.size)
  have hlt : w.heap.size < w1.heap.size := hl1.lt
  obtain ⟨w2, hw2⟩ : ∃ w2, w2 = w1.alloc (.cells #[.int .u8 3, .string ⟨#[]⟩] 23) := ⟨_, rfl⟩
  have ht2 : Two w2 w.heap.size w1.heap.size 3 ⟨#[]⟩ := by rw [hw2]; exact ⟨hl1.alloc _, Lies.new _ _ _, hlt⟩
  have hb2 : Below w.heap.size w w2 := by rw [hw2]; exact hb1'.alloc hb1'.size _
  have c2 := ht2.b.cell 0
  simp at c2
  obtain ⟨hb, hhb⟩ : ∃ hb, hb = w1.heap.size := ⟨_, rfl⟩
  have hbw : w.heap.size ≤ hb := by omega
  rw [← hhr] at ht2
  rw [← hhb] at ht2 c2
  have HT2 := Bx.mk ht2
  have HB2 := Bx.mk hb2
  clear hl1 hb1 hb1' ht2 hb2 hlt L0 HB0
  go_upto_region 3 with fail
  rw [← hw2, ← hhr, ← hhb]
  clear hw2 hhr hhb
  go_wp2_with fail
  refine (HLO.out _).mono ?_
  rintro e w3 ⟨rfl, hb3⟩
  have ht3 := HT2.out.below hb3
  have f1 := ht3.b.frozen 1
  have k1 := ht3.b.cell 1
  simp at k1
  have ht4 := ht3.put t
  have hb4 := (HB2.out.trans (hb3.mono HB2.out.size)).setCell (p := ⟨hb, 1, none⟩) hbw (.string t)
  have k4 := ht4.b.cell 1
  simp at k4
  have HT4 := Bx.mk ht4
  have HB4 := Bx.mk hb4
  clear ht3 ht4 hb3 hb4
  go_wp2_with fail
  refine (HNM.out _).mono ?_
  rintro e w5 ⟨rfl, hb5⟩
  have ht5 := HT4.out.below hb5
  have g0 := ht5.r.frozen 0
  have g1 := ht5.r.frozen 1
  have r0 := ht5.r.cell 0
  have r1 := ht5.r.cell 1
  have b0 := ht5.b.cell 0
  have b1 := ht5.b.cell 1
  simp at r0 r1 b0 b1
  have hb5' := HB4.out.trans (hb5.mono HB4.out.size)
  cases q with
  | true =>
    have HN := Bx.mk ht5.yes
    have HBN := Bx.mk ((hb5'.setCell (p := ⟨hr, 0, none⟩) hrw (.int .u8 3)).setCell (p := ⟨hr, 1, none⟩) hrw (.string t))
    clear ht5 hb5 hb5'
    go_wp2
    exact bodyPost_ret (v := .tuple #[hv 3 t, .int .i64 0]) (results_parse HN.out _ rfl rfl) rfl ⟨by rw [HO.out]; rfl, HBN.out⟩
  | false =>
    have HN := Bx.mk ht5.no
    have HBN := Bx.mk ((hb5'.setCell (p := ⟨hr, 0, none⟩) hrw (.int .u8 0)).setCell (p := ⟨hr, 1, none⟩) hrw (.string ⟨#[]⟩))
    clear ht5 hb5 hb5'
    go_wp2
    exact bodyPost_ret (v := .tuple #[hv 0 ⟨#[]⟩, .int .i64 40]) (results_parse HN.out _ rfl rfl) rfl ⟨by rw [HO.out]; rfl, HBN.out⟩

theorem parse_any (s : ByteArray) (hs : s.size ≤ 3000) (w : World) (he : Env w) : Calls Tryz.prog 23 #[.string s] w (Gives (HPv (parse s.data.toList)) w) := by
  obtain ⟨l, hl⟩ : ∃ l, l = s.data.toList := ⟨_, rfl⟩
  by_cases h58 : (58 : UInt8) ∈ l
  · have hk : kindF s.data.toList = 2 := by unfold kindF; rw [← hl, if_pos h58]
    have hp : parse l = (six (low l)).map fun g => ⟨2, by2 g⟩ := by unfold parse; rw [if_pos (low_58.2 h58)]
    have := parseK6 s hs w he hk ((six (low l)).map fun g => S (by2 g)) ⟨#[]⟩ (fun W hW => by
      have h := parseV6_any s hs W hW
      rw [← hl] at h
      refine h.mono fun e w' he' => ?_
      cases hs6 : six (low l) with
      | none => rw [hs6] at he'; exact he'
      | some g => rw [hs6] at he'; exact he')
    rw [← hl, hp]
    refine this.mono fun e w' he' => ?_
    cases hs6 : six (low l) with
    | none => rw [hs6] at he'; exact he'
    | some g => rw [hs6] at he'; exact he'
  · by_cases hd : l.all dd = true
    · have hk : kindF s.data.toList = 1 := by unfold kindF; rw [← hl, if_neg h58, if_pos hd]
      have hp : parse l = (four l).map fun b => ⟨1, b.map UInt8.ofNat⟩ := by
        unfold parse
        rw [if_neg (fun h => h58 (low_58.1 h)), low_same hd]
        by_cases h0 : l = []
        · subst h0; rfl
        · rw [if_pos ⟨h0, hd⟩]
      have := parseK4 s hs w he hk ((four l).map fun b => S (b.map UInt8.ofNat)) ⟨#[]⟩ (fun W hW => by
        have h := parseV4_any s hs W hW
        rw [← hl] at h
        refine h.mono fun e w' he' => ?_
        unfold V4 at he'
        cases hs6 : four l with
        | none => rw [hs6] at he'; exact he'
        | some g => rw [hs6] at he'; exact he')
      rw [← hl, hp]
      refine this.mono fun e w' he' => ?_
      cases hs6 : four l with
      | none => rw [hs6] at he'; exact he'
      | some g => rw [hs6] at he'; exact he'
    · have hk : kindF s.data.toList = 3 := by unfold kindF; rw [← hl, if_neg h58, if_neg hd]
      have hp : parse l = if nameB (low l) then some ⟨3, low l⟩ else none := by
        unfold parse
        rw [if_neg (fun h => h58 (low_58.1 h)), if_neg (fun h => hd (by rw [← low_dd]; exact h.2))]
      have := parseK3 s hs w he hk
      rw [← hl] at this
      rw [← hl, hp]
      refine this.mono fun e w' he' => ?_
      cases hn : nameB (low l) with
      | true => rw [hn] at he'; exact he'
      | false => rw [hn] at he'; exact he'
end Go.Proofs.YtefpplkoohnfbabGreatDoor.hw
