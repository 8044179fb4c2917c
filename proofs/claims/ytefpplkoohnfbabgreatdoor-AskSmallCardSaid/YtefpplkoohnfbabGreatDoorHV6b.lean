/-
  Given for the seat's laws: the contract of parseV6, where there are no two colons side by side, and whole. No condition but those of the theorems.
-/
import Derived.Test.YtefpplkoohnfbabGreatDoorHV6
namespace Go.Proofs.YtefpplkoohnfbabGreatDoor.hw
open Go.RowKit mem hostp
set_option linter.unusedVariables false

set_option maxRecDepth 100000 in
set_option maxHeartbeats 1600000 in
theorem parseV6_no (s : ByteArray) (hs : s.size ≤ 3000) (w : World) (he : Env w) (hc : cutDC s.data.toList = none) : Calls Tryz.prog 30 #[.string s] w (Gives (V6v (pv6 s.data.toList)) w) := by
  have hcut := cut_any s hs w he s.data.toList [] false (by rw [cut_dc, hc])
  rw [S_data] at hcut
  have hpv : pv6 s.data.toList = match g8 s.data.toList with
      | some a => if a.length = 8 then some a else none
      | none => none := by unfold pv6; rw [hc]; rfl
  have HCUT := Bx.mk hcut
  have HPV := Bx.mk hpv
  have HE := Bx.mk he
  clear hcut hpv hc he
  go_enter Tryz.func30, Tryz.ntmps30
  go_wp2_with fail
  refine HCUT.out.mono ?_
  rintro e w1 ⟨rfl, hb1⟩
  have HP1 := Bx.mk (parseGroups_any s hs w1 (HE.out.below hb1))
  have HB1 := Bx.mk hb1
  clear hb1
  go_wp2_with fail
  refine HP1.out.mono ?_
  rintro e w2 ⟨hb2, ⟨a, hga, rfl⟩ | ⟨hga, g, hg8, rfl⟩⟩
  · have HG := g8_lt hga
    have hl8 := pad8_len HG.1
    obtain ⟨x0, x1, x2, x3, x4, x5, x6, x7, hx⟩ := gc_eight hl8
    have ha8 : a.length ≤ 8 := HG.1
    unfold gv
    rw [hx]
    obtain ⟨w3, hw3⟩ : ∃ w3, w3 = w2.alloc (.cells #[.int .u16 x0, .int .u16 x1, .int .u16 x2, .int .u16 x3, .int .u16 x4, .int .u16 x5, .int .u16 x6, .int .u16 x7] 95) := ⟨_, rfl⟩
    have hb3 : Below w.heap.size w w3 := by rw [hw3]; exact (HB1.out.trans (hb2.mono HB1.out.size)).alloc (by have := HB1.out.size; have := hb2.size; omega) _
    have hl3 : Lies w3 w2.heap.size 95 (gc (pad8 a)) := by rw [hw3, hx]; exact Lies.new _ _ _
    have HP2 := Bx.mk (parseGroups_any ⟨#[]⟩ (by show 0 ≤ 3000; omega) w3 (HE.out.below hb3))
    have HB3 := Bx.mk hb3
    have HL3 := Bx.mk hl3
    have HGA := Bx.mk hga
    have HLT := Bx.mk HG.2
    have hz3 : w3.heap.size = w2.heap.size + 1 := by rw [hw3]; simp
    have HZ3 := Bx.mk hz3
    have hpv := HPV.out
    rw [hga] at hpv
    dsimp only at hpv
    have HPV2 := Bx.mk hpv
    clear hb3 hl3 hga HG hz3 hb2 hl8 hx hpv
    go_upto_region 3 with fail
    rw [← hw3]
    clear hw3
    go_wp2_with fail
    refine HP2.out.mono ?_
    rintro e w4 ⟨hb4, ⟨b, hgb, rfl⟩ | ⟨hgb, _⟩⟩
    · obtain rfl : [] = b := Option.some.inj hgb
      obtain ⟨w5, hw5⟩ : ∃ w5, w5 = w4.alloc (.cells #[.int .u16 0, .int .u16 0, .int .u16 0, .int .u16 0, .int .u16 0, .int .u16 0, .int .u16 0, .int .u16 0] 95) := ⟨_, rfl⟩
      unfold gv
      rw [pad8_nil]
      have hb5 : Below w3.heap.size w3 w5 := by rw [hw5]; exact hb4.alloc hb4.size _
      have hl6 : Lies w5 w2.heap.size 95 (gc (pad8 a)) := HL3.out.below hb5 (by rw [HZ3.out]; omega)
      have hbw : Below w.heap.size w w5 := HB3.out.trans (hb5.mono HB3.out.size)
      obtain ⟨gA, hgA⟩ : ∃ gA, gA = w2.heap.size := ⟨_, rfl⟩
      rw [← hgA] at hl6
      have HBW := Bx.mk hbw
      have HL6 := Bx.mk hl6
      obtain ⟨m, hm⟩ : ∃ m, a.length = m := ⟨_, rfl⟩
      have HM := Bx.mk hm
      rw [hm]
      rw [hm] at ha8
      clear hb4 hb5 hl6 hbw hgb hm
      by_cases h8 : m = 8
      · have hne : ((m : Int) != 8) = false := by rw [h8]; rfl
        have hpv := HPV2.out
        rw [if_pos (by rw [HM.out]; exact h8)] at hpv
        have hpa : pad8 a = a := by unfold pad8; rw [HM.out, h8]; simp
        have hby := bytes_any a (by rw [HM.out]; exact h8) HLT.out w5
        have hl := HL6.out
        rw [hpa] at hl
        obtain ⟨a0, a1, a2, a3, a4, a5, a6, a7, hg, c0, c1, c2, c3, c4, c5, c6, c7⟩ := gc_cells hl (by rw [HM.out]; exact h8)
        unfold gv at hby
        rw [hg] at hby
        have HBY := Bx.mk hby
        have HEND := Bx.mk hpv
        clear hpv hpa hby hl hg h8
        go_upto_region 4 with fail
        rw [← hw5, ← hgA]
        clear hw5 hgA
        go_wp2_with fail
        refine wp_loop_rounds 1 ?_
        rw [rounds_succ]
        go_wp2_with fail
        refine HBY.out.mono ?_
        rintro e w7 ⟨rfl, hb7⟩
        have HB7 := Bx.mk (HBW.out.trans (hb7.mono HBW.out.size))
        clear hb7
        go_wp2_with fail
        go_ret2
        exact ⟨by rw [HEND.out]; rfl, HB7.out⟩
      · have hne : ((m : Int) != 8) = true := by
          have : (m : Int) ≠ 8 := by omega
          simpa using this
        have hpv := HPV2.out
        rw [if_neg (by rw [HM.out]; exact h8)] at hpv
        have HEND := Bx.mk hpv
        clear hpv h8
        go_upto_region 4 with fail
        rw [← hw5]
        clear hw5
        go_wp2_with fail
        go_ret2
        exact ⟨by rw [HEND.out]; rfl, HBW.out⟩
    · exact absurd hgb (by show ¬ g8 [] = none; rw [g8_nil]; simp)
  · obtain ⟨x0, x1, x2, x3, x4, x5, x6, x7, hx⟩ := gc_eight hg8
    unfold gv
    rw [hx]
    obtain ⟨w3, hw3⟩ : ∃ w3, w3 = w2.alloc (.cells #[.int .u16 x0, .int .u16 x1, .int .u16 x2, .int .u16 x3, .int .u16 x4, .int .u16 x5, .int .u16 x6, .int .u16 x7] 95) := ⟨_, rfl⟩
    have hb3 : Below w.heap.size w w3 := by rw [hw3]; exact (HB1.out.trans (hb2.mono HB1.out.size)).alloc (by have := HB1.out.size; have := hb2.size; omega) _
    have HP2 := Bx.mk (parseGroups_any ⟨#[]⟩ (by show 0 ≤ 3000; omega) w3 (HE.out.below hb3))
    have hpv := HPV.out
    rw [hga] at hpv
    have HPV2 := Bx.mk hpv
    have HB3 := Bx.mk hb3
    clear hb3 hga hb2 hg8 hx hpv
    go_upto_region 3 with fail
    rw [← hw3]
    clear hw3
    go_wp2_with fail
    refine HP2.out.mono ?_
    rintro e w4 ⟨hb4, hcase⟩
    obtain ⟨b, n, fine, hb8, rfl⟩ : ∃ (b : List Nat) (n : Nat) (fine : Bool), b.length = 8 ∧ e = .returned (.tuple #[gv b, .int .i64 (n : Int), .bool fine]) := by
      rcases hcase with ⟨b, hgb, rfl⟩ | ⟨hgb, g, hg8, rfl⟩
      · exact ⟨pad8 b, b.length, true, pad8_len (g8_lt hgb).1, rfl⟩
      · exact ⟨g, 0, false, hg8, rfl⟩
    clear hcase
    obtain ⟨y0, y1, y2, y3, y4, y5, y6, y7, hy⟩ := gc_eight hb8
    unfold gv
    rw [hy]
    have HBW := Bx.mk (HB3.out.trans ((hb4.alloc hb4.size (.cells #[.int .u16 y0, .int .u16 y1, .int .u16 y2, .int .u16 y3, .int .u16 y4, .int .u16 y5, .int .u16 y6, .int .u16 y7] 95)).mono HB3.out.size))
    clear hb4 hb8 hy
    go_wp2_with fail
    go_ret2
    exact ⟨by rw [HPV2.out]; rfl, HBW.out⟩

/-- the address of a text, as parseV6 gives it: with its great letters it is the plain one's -/
theorem parseV6_any (s : ByteArray) (hs : s.size ≤ 3000) (w : World) (he : Env w) : Calls Tryz.prog 30 #[.string s] w (Gives (V6v (six (low s.data.toList))) w) := by
  rw [six_pv6]
  cases hc : cutDC s.data.toList with
  | none => exact parseV6_no s hs w he hc
  | some q => exact parseV6_gap s hs w he q.1 q.2 hc
end Go.Proofs.YtefpplkoohnfbabGreatDoor.hw
