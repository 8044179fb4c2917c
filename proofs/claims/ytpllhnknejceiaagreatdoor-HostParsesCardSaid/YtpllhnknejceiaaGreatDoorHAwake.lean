/-
  Given for the seat's laws: the chapter's examples. No condition but those of the theorems.
-/
import Derived.Test.YtpllhnknejceiaaGreatDoorHSixL
import Derived.Test.YtpllhnknejceiaaGreatDoorHPrint
namespace Go.Proofs.YtpllhnknejceiaaGreatDoor.hw
open Go.RowKit mem hostp own
set_option linter.unusedVariables false

theorem parse_lit (s : ByteArray) (hs : s.size ≤ 100) (k : Nat) (t : ByteArray) (l : Str) (hp : parse s.data.toList = some ⟨k, l⟩) (ht : S l = t) (w : World) (he : Env w) : Calls Tryz.prog 8 #[.string s] w fun e w' => e = .returned (.tuple #[.agg #[.int .u8 (k : Int), .string t], .int .i64 0]) ∧ Below w.heap.size w w' := by
  have h := parse_any s (by omega) w he
  rw [hp] at h
  subst ht
  exact h
theorem pt_lit (s : ByteArray) (hs : s.size ≤ 100) (k : Nat) (t : ByteArray) (l : Str) (p : Int) (hp : parseT s.data.toList = some ⟨⟨k, l⟩, p⟩) (ht : S l = t) (w : World) (he : Env w) : Calls Tryz.prog 10 #[.string s] w fun e w' => e = .returned (.tuple #[.agg #[.int .u8 (k : Int), .string t, .int .i64 p], .int .i64 0]) ∧ Below w.heap.size w w' := by
  have h := parseTarget_any s (by omega) w he
  rw [hp] at h
  subst ht
  exact h
theorem pt_litno (s : ByteArray) (hs : s.size ≤ 100) (hp : parseT s.data.toList = none) (w : World) (he : Env w) : Calls Tryz.prog 10 #[.string s] w fun e w' => e = .returned (.tuple #[.agg #[.int .u8 0, .string ⟨#[]⟩, .int .i64 0], .int .i64 40]) ∧ Below w.heap.size w w' := by
  have h := parseTarget_any s (by omega) w he
  rw [hp] at h
  exact h
theorem text_lit (k : Nat) (t u : ByteArray) (ht : S (text ⟨k, t.data.toList⟩) = u) (w : World) (he : Env w) : Calls Tryz.prog 14 #[.agg #[.int .u8 (k : Int), .string t]] w fun e w' => e = .returned (.string u) ∧ Below w.heap.size w w' := by
  have h := text_any (k : Int) t (by omega) w he
  have e1 : hh (k : Int) t = ⟨k, t.data.toList⟩ := by unfold hh; simp
  rw [e1, ht] at h
  exact h
theorem print_lit (k : Nat) (t u : ByteArray) (p : Int) (ht : S (print ⟨⟨k, t.data.toList⟩, p⟩) = u) (w : World) (he : Env w) : Calls Tryz.prog 16 #[.agg #[.int .u8 (k : Int), .string t, .int .i64 p]] w fun e w' => e = .returned (.string u) ∧ Below w.heap.size w w' := by
  have h := print_any (k : Int) t p (by omega) w he
  have e1 : tt (k : Int) t p = ⟨⟨k, t.data.toList⟩, p⟩ := by unfold tt hh; simp
  rw [e1, ht] at h
  exact h
theorem six_lit (w : World) (g : List Nat) (hg : g.length = 8) (hlt : ∀ v ∈ g, v < 65536) (t : ByteArray) (ht : S (by2 g) = t) (T : TypeId) (fz : Nat × Nat) :
    Calls Tryz.prog 19 #[.slice (some ⟨w.heap.size, 0, none⟩) 8 8] (w.alloc (.cells (gc g) T fz)) fun e w' => e = .returned (.agg #[.int .u8 2, .string t]) ∧ Below w.heap.size w w' := by
  subst ht
  refine (lsix_any hg (by omega) (by simp) (fun j v hj => ?_) hlt).mono ?_
  · rw [lit_cell, gc_get (List.getElem?_eq_some_iff.1 hj).1, List.getD_eq_getElem?_getD, hj]
    rfl
  · rintro e w' ⟨rfl, hb⟩
    exact ⟨rfl, ((Below.refl _ _).alloc (Nat.le_refl _) _).trans (hb.mono (by simp))⟩
theorem none_lit (w : World) (he : Env w) (T : TypeId) (fz : Nat × Nat) : Calls Tryz.prog 34 #[.slice (some ⟨w.heap.size, 0, none⟩) 8 8] (w.alloc (.cells #[.string ⟨#[97, 46, 46, 98]⟩, .string ⟨#[97, 46, 49]⟩, .string ⟨#[45, 97]⟩, .string ⟨#[49, 46, 50, 46, 51, 46, 48, 52]⟩, .string ⟨#[49, 46, 50, 46, 51]⟩, .string ⟨#[49, 46, 50, 46, 51, 46, 50, 53, 54]⟩, .string ⟨#[49, 58, 58, 50, 58, 58, 51]⟩, .string ⟨#[49, 58, 50, 58, 51, 58, 52, 58, 53, 58, 54, 58, 55, 58, 58, 56]⟩] T fz)) fun e w' => e = .returned (.bool true) ∧ Below w.heap.size w w' := by
  refine (lnone_any (n := 8) (l := [bs [97, 46, 46, 98], bs [97, 46, 49], bs [45, 97], bs [49, 46, 50, 46, 51, 46, 48, 52], bs [49, 46, 50, 46, 51], bs [49, 46, 50, 46, 51, 46, 50, 53, 54], bs [49, 58, 58, 50, 58, 58, 51], bs [49, 58, 50, 58, 51, 58, 52, 58, 53, 58, 54, 58, 55, 58, 58, 56]]) rfl (by omega) (by simp) (he.alloc _) (fun i x h => ?_) (fun x hx => ?_)).mono ?_
  · rw [lit_cell]
    match i, h with
    | 0, h => obtain rfl := Option.some.inj h; rfl
    | 1, h => obtain rfl := Option.some.inj h; rfl
    | 2, h => obtain rfl := Option.some.inj h; rfl
    | 3, h => obtain rfl := Option.some.inj h; rfl
    | 4, h => obtain rfl := Option.some.inj h; rfl
    | 5, h => obtain rfl := Option.some.inj h; rfl
    | 6, h => obtain rfl := Option.some.inj h; rfl
    | 7, h => obtain rfl := Option.some.inj h; rfl
    | i + 8, h => simp at h
  · simp only [List.mem_cons, List.not_mem_nil, or_false] at hx
    rcases hx with rfl | rfl | rfl | rfl | rfl | rfl | rfl | rfl
    · exact ⟨ex_no0, by decide⟩
    · exact ⟨ex_no1, by decide⟩
    · exact ⟨ex_no2, by decide⟩
    · exact ⟨ex_no3, by decide⟩
    · exact ⟨ex_no4, by decide⟩
    · exact ⟨ex_no5, by decide⟩
    · exact ⟨ex_no6, by decide⟩
    · exact ⟨ex_no7, by decide⟩
  · rintro e w' ⟨rfl, hb⟩
    exact ⟨rfl, ((Below.refl _ _).alloc (Nat.le_refl _) _).trans (hb.mono (by simp))⟩

set_option maxRecDepth 100000 in
set_option maxHeartbeats 4000000 in
theorem awake_any (w : World) (he : Env w) : Calls Tryz.prog 12 #[] w (Gives (.bool true) w) := by
  have HE := Bx.mk he
  have BB0 := Bx.mk (Below.refl w.heap.size w)
  clear he
  go_enter Tryz.func12, Tryz.ntmps12
  go_wp2_with fail
  refine (parse_lit ⟨#[65, 46, 69, 120, 97, 109, 112, 108, 101]⟩ (by decide) 3 ⟨#[97, 46, 101, 120, 97, 109, 112, 108, 101]⟩ _ ex_name rfl _ (HE.out.below BB0.out)).mono ?_
  rintro e w1 ⟨rfl, hb1⟩
  have bb1 := BB0.out.trans (hb1.mono BB0.out.size)
  obtain ⟨v1, hv1⟩ : ∃ v, v = w1.alloc (.cells #[.int .u8 3, .string ⟨#[97, 46, 101, 120, 97, 109, 112, 108, 101]⟩] 23) := ⟨_, rfl⟩
  have BB1 := Bx.mk (show Below w.heap.size w v1 by rw [hv1]; exact bb1.alloc bb1.size _)
  obtain ⟨q1, hq1⟩ : ∃ b, b = w1.heap.size := ⟨_, rfl⟩
  have Lq1 : Bx (Lies v1 q1 23 #[.int .u8 3, .string ⟨#[97, 46, 101, 120, 97, 109, 112, 108, 101]⟩]) := ⟨by rw [hv1, hq1]; exact Lies.new _ _ _⟩
  clear bb1 hb1
  go_upto_region 2 with fail
  rw [← hv1]
  rw [← hq1]
  clear hq1
  clear hv1
  go_wp2_with fail
  refine (parse_lit ⟨#[48, 58, 48, 58, 58, 48]⟩ (by decide) 2 ⟨#[0, 0, 0, 0, 0, 0, 0, 0, 0, 0, 0, 0, 0, 0, 0, 0]⟩ _ ex_six rfl _ (HE.out.below BB1.out)).mono ?_
  rintro e w2 ⟨rfl, hb2⟩
  have bb2 := BB1.out.trans (hb2.mono BB1.out.size)
  have Lq1 := Bx.mk (Lq1.out.below hb2 Lq1.out.lt)
  obtain ⟨v2, hv2⟩ : ∃ v, v = w2.alloc (.cells #[.int .u8 2, .string ⟨#[0, 0, 0, 0, 0, 0, 0, 0, 0, 0, 0, 0, 0, 0, 0, 0]⟩] 23) := ⟨_, rfl⟩
  have BB2 := Bx.mk (show Below w.heap.size w v2 by rw [hv2]; exact bb2.alloc bb2.size _)
  have Lq1 : Bx (Lies v2 _ _ _) := ⟨by rw [hv2]; exact Lq1.out.alloc _⟩
  obtain ⟨q3, hq3⟩ : ∃ b, b = w2.heap.size := ⟨_, rfl⟩
  have Lq3 : Bx (Lies v2 q3 23 #[.int .u8 2, .string ⟨#[0, 0, 0, 0, 0, 0, 0, 0, 0, 0, 0, 0, 0, 0, 0, 0]⟩]) := ⟨by rw [hv2, hq3]; exact Lies.new _ _ _⟩
  clear bb2 hb2
  go_upto_region 3 with fail
  rw [← hv2]
  rw [← hq3]
  clear hq3
  clear hv2
  go_wp2_with fail
  refine (pt_lit ⟨#[91, 58, 58, 49, 93, 58, 56, 48]⟩ (by decide) 2 ⟨#[0, 0, 0, 0, 0, 0, 0, 0, 0, 0, 0, 0, 0, 0, 0, 1]⟩ _ 80 ex_target rfl _ (HE.out.below BB2.out)).mono ?_
  rintro e w3 ⟨rfl, hb3⟩
  have bb3 := BB2.out.trans (hb3.mono BB2.out.size)
  have Lq1 := Bx.mk (Lq1.out.below hb3 Lq1.out.lt)
  have Lq3 := Bx.mk (Lq3.out.below hb3 Lq3.out.lt)
  obtain ⟨v3, hv3⟩ : ∃ v, v = w3.alloc (.cells #[.int .u8 2, .string ⟨#[0, 0, 0, 0, 0, 0, 0, 0, 0, 0, 0, 0, 0, 0, 0, 1]⟩, .int .i64 80] 30) := ⟨_, rfl⟩
  have BB3 := Bx.mk (show Below w.heap.size w v3 by rw [hv3]; exact bb3.alloc bb3.size _)
  have Lq1 : Bx (Lies v3 _ _ _) := ⟨by rw [hv3]; exact Lq1.out.alloc _⟩
  have Lq3 : Bx (Lies v3 _ _ _) := ⟨by rw [hv3]; exact Lq3.out.alloc _⟩
  obtain ⟨q5, hq5⟩ : ∃ b, b = w3.heap.size := ⟨_, rfl⟩
  have Lq5 : Bx (Lies v3 q5 30 #[.int .u8 2, .string ⟨#[0, 0, 0, 0, 0, 0, 0, 0, 0, 0, 0, 0, 0, 0, 0, 1]⟩, .int .i64 80]) := ⟨by rw [hv3, hq5]; exact Lies.new _ _ _⟩
  clear bb3 hb3
  go_upto_region 4 with fail
  rw [← hv3]
  rw [← hq5]
  clear hq5
  clear hv3
  go_wp2_with fail
  refine (pt_litno ⟨#[97, 58, 48, 56, 48]⟩ (by decide) ex_noT0 _ (HE.out.below BB3.out)).mono ?_
  rintro e w4 ⟨rfl, hb4⟩
  have bb4 := BB3.out.trans (hb4.mono BB3.out.size)
  have Lq1 := Bx.mk (Lq1.out.below hb4 Lq1.out.lt)
  have Lq3 := Bx.mk (Lq3.out.below hb4 Lq3.out.lt)
  have Lq5 := Bx.mk (Lq5.out.below hb4 Lq5.out.lt)
  obtain ⟨v4, hv4⟩ : ∃ v, v = w4.alloc (.cells #[.int .u8 0, .string ⟨#[]⟩, .int .i64 0] 30) := ⟨_, rfl⟩
  have BB4 := Bx.mk (show Below w.heap.size w v4 by rw [hv4]; exact bb4.alloc bb4.size _)
  have Lq1 : Bx (Lies v4 _ _ _) := ⟨by rw [hv4]; exact Lq1.out.alloc _⟩
  have Lq3 : Bx (Lies v4 _ _ _) := ⟨by rw [hv4]; exact Lq3.out.alloc _⟩
  have Lq5 : Bx (Lies v4 _ _ _) := ⟨by rw [hv4]; exact Lq5.out.alloc _⟩
  obtain ⟨q7, hq7⟩ : ∃ b, b = w4.heap.size := ⟨_, rfl⟩
  have Lq7 : Bx (Lies v4 q7 30 #[.int .u8 0, .string ⟨#[]⟩, .int .i64 0]) := ⟨by rw [hv4, hq7]; exact Lies.new _ _ _⟩
  clear bb4 hb4
  go_upto_region 5 with fail
  rw [← hv4]
  rw [← hq7]
  clear hq7
  clear hv4
  go_wp2_with fail
  refine (pt_litno ⟨#[97, 58, 48]⟩ (by decide) ex_noT1 _ (HE.out.below BB4.out)).mono ?_
  rintro e w5 ⟨rfl, hb5⟩
  have bb5 := BB4.out.trans (hb5.mono BB4.out.size)
  have Lq1 := Bx.mk (Lq1.out.below hb5 Lq1.out.lt)
  have Lq3 := Bx.mk (Lq3.out.below hb5 Lq3.out.lt)
  have Lq5 := Bx.mk (Lq5.out.below hb5 Lq5.out.lt)
  obtain ⟨v5, hv5⟩ : ∃ v, v = w5.alloc (.cells #[.int .u8 0, .string ⟨#[]⟩, .int .i64 0] 30) := ⟨_, rfl⟩
  have BB5 := Bx.mk (show Below w.heap.size w v5 by rw [hv5]; exact bb5.alloc bb5.size _)
  have Lq1 : Bx (Lies v5 _ _ _) := ⟨by rw [hv5]; exact Lq1.out.alloc _⟩
  have Lq3 : Bx (Lies v5 _ _ _) := ⟨by rw [hv5]; exact Lq3.out.alloc _⟩
  have Lq5 : Bx (Lies v5 _ _ _) := ⟨by rw [hv5]; exact Lq5.out.alloc _⟩
  obtain ⟨q9, hq9⟩ : ∃ b, b = w5.heap.size := ⟨_, rfl⟩
  have Lq9 : Bx (Lies v5 q9 30 #[.int .u8 0, .string ⟨#[]⟩, .int .i64 0]) := ⟨by rw [hv5, hq9]; exact Lies.new _ _ _⟩
  clear bb5 hb5
  go_upto_region 6 with fail
  rw [← hv5]
  rw [← hq9]
  clear hq9
  clear hv5
  go_wp2_with fail
  refine (pt_litno ⟨#[58, 58, 49, 58, 56, 48]⟩ (by decide) ex_noT2 _ (HE.out.below BB5.out)).mono ?_
  rintro e w6 ⟨rfl, hb6⟩
  have bb6 := BB5.out.trans (hb6.mono BB5.out.size)
  have Lq1 := Bx.mk (Lq1.out.below hb6 Lq1.out.lt)
  have Lq3 := Bx.mk (Lq3.out.below hb6 Lq3.out.lt)
  have Lq5 := Bx.mk (Lq5.out.below hb6 Lq5.out.lt)
  obtain ⟨v6, hv6⟩ : ∃ v, v = w6.alloc (.cells #[.int .u8 0, .string ⟨#[]⟩, .int .i64 0] 30) := ⟨_, rfl⟩
  have BB6 := Bx.mk (show Below w.heap.size w v6 by rw [hv6]; exact bb6.alloc bb6.size _)
  have Lq1 : Bx (Lies v6 _ _ _) := ⟨by rw [hv6]; exact Lq1.out.alloc _⟩
  have Lq3 : Bx (Lies v6 _ _ _) := ⟨by rw [hv6]; exact Lq3.out.alloc _⟩
  have Lq5 : Bx (Lies v6 _ _ _) := ⟨by rw [hv6]; exact Lq5.out.alloc _⟩
  obtain ⟨q11, hq11⟩ : ∃ b, b = w6.heap.size := ⟨_, rfl⟩
  have Lq11 : Bx (Lies v6 q11 30 #[.int .u8 0, .string ⟨#[]⟩, .int .i64 0]) := ⟨by rw [hv6, hq11]; exact Lies.new _ _ _⟩
  clear bb6 hb6
  go_upto_region 7 with fail
  rw [← hv6]
  rw [← hq11]
  clear hq11
  clear hv6
  go_wp2_with fail
  refine (six_lit _ [0, 0, 0, 0, 0, 0, 0, 1] rfl (by decide) ⟨#[0, 0, 0, 0, 0, 0, 0, 0, 0, 0, 0, 0, 0, 0, 0, 1]⟩ rfl _ _).mono ?_
  rintro e w7 ⟨rfl, hb7⟩
  have bb7 := BB6.out.trans (hb7.mono BB6.out.size)
  have Lq1 := Bx.mk (Lq1.out.below hb7 Lq1.out.lt)
  have Lq3 := Bx.mk (Lq3.out.below hb7 Lq3.out.lt)
  have Lq5 := Bx.mk (Lq5.out.below hb7 Lq5.out.lt)
  obtain ⟨v7, hv7⟩ : ∃ v, v = w7.alloc (.cells #[.int .u8 2, .string ⟨#[0, 0, 0, 0, 0, 0, 0, 0, 0, 0, 0, 0, 0, 0, 0, 1]⟩] 23) := ⟨_, rfl⟩
  have BB7 := Bx.mk (show Below w.heap.size w v7 by rw [hv7]; exact bb7.alloc bb7.size _)
  have Lq1 : Bx (Lies v7 _ _ _) := ⟨by rw [hv7]; exact Lq1.out.alloc _⟩
  have Lq3 : Bx (Lies v7 _ _ _) := ⟨by rw [hv7]; exact Lq3.out.alloc _⟩
  have Lq5 : Bx (Lies v7 _ _ _) := ⟨by rw [hv7]; exact Lq5.out.alloc _⟩
  obtain ⟨q13, hq13⟩ : ∃ b, b = w7.heap.size := ⟨_, rfl⟩
  have Lq13 : Bx (Lies v7 q13 23 #[.int .u8 2, .string ⟨#[0, 0, 0, 0, 0, 0, 0, 0, 0, 0, 0, 0, 0, 0, 0, 1]⟩]) := ⟨by rw [hv7, hq13]; exact Lies.new _ _ _⟩
  clear bb7 hb7
  go_upto_region 8 with fail
  rw [← hv7]
  rw [← hq13]
  clear hq13
  clear hv7
  go_wp2_with fail
  refine (text_lit 1 ⟨#[10, 0, 0, 255]⟩ ⟨#[49, 48, 46, 48, 46, 48, 46, 50, 53, 53]⟩ (by decide +kernel) _ (HE.out.below BB7.out)).mono ?_
  rintro e w8 ⟨rfl, hb8⟩
  have bb8 := BB7.out.trans (hb8.mono BB7.out.size)
  have Lq1 := Bx.mk (Lq1.out.below hb8 Lq1.out.lt)
  have Lq3 := Bx.mk (Lq3.out.below hb8 Lq3.out.lt)
  have Lq5 := Bx.mk (Lq5.out.below hb8 Lq5.out.lt)
  have Lq13 := Bx.mk (Lq13.out.below hb8 Lq13.out.lt)
  have BB8 := Bx.mk bb8
  clear bb8 hb8
  have c0 := Lq13.out.cell 0
  have c1 := Lq13.out.cell 1
  simp at c0 c1
  go_wp2_with fail
  clear c0 c1
  refine (text_lit 2 ⟨#[0, 0, 0, 0, 0, 0, 0, 0, 0, 0, 0, 0, 0, 0, 0, 1]⟩ ⟨#[58, 58, 49]⟩ (by decide +kernel) _ (HE.out.below BB8.out)).mono ?_
  rintro e w9 ⟨rfl, hb9⟩
  have bb9 := BB8.out.trans (hb9.mono BB8.out.size)
  have Lq1 := Bx.mk (Lq1.out.below hb9 Lq1.out.lt)
  have Lq3 := Bx.mk (Lq3.out.below hb9 Lq3.out.lt)
  have Lq5 := Bx.mk (Lq5.out.below hb9 Lq5.out.lt)
  have Lq13 := Bx.mk (Lq13.out.below hb9 Lq13.out.lt)
  have BB9 := Bx.mk bb9
  clear bb9 hb9
  go_wp2_with fail
  refine (six_lit _ [0, 0, 0, 0, 0, 0, 0, 0] rfl (by decide) ⟨#[0, 0, 0, 0, 0, 0, 0, 0, 0, 0, 0, 0, 0, 0, 0, 0]⟩ rfl _ _).mono ?_
  rintro e w10 ⟨rfl, hb10⟩
  have bb10 := BB9.out.trans (hb10.mono BB9.out.size)
  have Lq1 := Bx.mk (Lq1.out.below hb10 Lq1.out.lt)
  have Lq3 := Bx.mk (Lq3.out.below hb10 Lq3.out.lt)
  have Lq5 := Bx.mk (Lq5.out.below hb10 Lq5.out.lt)
  have Lq13 := Bx.mk (Lq13.out.below hb10 Lq13.out.lt)
  have BB10 := Bx.mk bb10
  clear bb10 hb10
  go_wp2_with fail
  refine (text_lit 2 ⟨#[0, 0, 0, 0, 0, 0, 0, 0, 0, 0, 0, 0, 0, 0, 0, 0]⟩ ⟨#[58, 58]⟩ (by decide +kernel) _ (HE.out.below BB10.out)).mono ?_
  rintro e w11 ⟨rfl, hb11⟩
  have bb11 := BB10.out.trans (hb11.mono BB10.out.size)
  have Lq1 := Bx.mk (Lq1.out.below hb11 Lq1.out.lt)
  have Lq3 := Bx.mk (Lq3.out.below hb11 Lq3.out.lt)
  have Lq5 := Bx.mk (Lq5.out.below hb11 Lq5.out.lt)
  have Lq13 := Bx.mk (Lq13.out.below hb11 Lq13.out.lt)
  have BB11 := Bx.mk bb11
  clear bb11 hb11
  go_wp2_with fail
  refine (six_lit _ [8193, 3512, 0, 0, 0, 0, 1, 0] rfl (by decide) ⟨#[32, 1, 13, 184, 0, 0, 0, 0, 0, 0, 0, 0, 0, 1, 0, 0]⟩ rfl _ _).mono ?_
  rintro e w12 ⟨rfl, hb12⟩
  have bb12 := BB11.out.trans (hb12.mono BB11.out.size)
  have Lq1 := Bx.mk (Lq1.out.below hb12 Lq1.out.lt)
  have Lq3 := Bx.mk (Lq3.out.below hb12 Lq3.out.lt)
  have Lq5 := Bx.mk (Lq5.out.below hb12 Lq5.out.lt)
  have Lq13 := Bx.mk (Lq13.out.below hb12 Lq13.out.lt)
  have BB12 := Bx.mk bb12
  clear bb12 hb12
  go_wp2_with fail
  refine (text_lit 2 ⟨#[32, 1, 13, 184, 0, 0, 0, 0, 0, 0, 0, 0, 0, 1, 0, 0]⟩ ⟨#[50, 48, 48, 49, 58, 100, 98, 56, 58, 58, 49, 58, 48]⟩ (by decide +kernel) _ (HE.out.below BB12.out)).mono ?_
  rintro e w13 ⟨rfl, hb13⟩
  have bb13 := BB12.out.trans (hb13.mono BB12.out.size)
  have Lq1 := Bx.mk (Lq1.out.below hb13 Lq1.out.lt)
  have Lq3 := Bx.mk (Lq3.out.below hb13 Lq3.out.lt)
  have Lq5 := Bx.mk (Lq5.out.below hb13 Lq5.out.lt)
  have Lq13 := Bx.mk (Lq13.out.below hb13 Lq13.out.lt)
  have BB13 := Bx.mk bb13
  clear bb13 hb13
  go_wp2_with fail
  refine (six_lit _ [1, 0, 0, 2, 0, 0, 0, 3] rfl (by decide) ⟨#[0, 1, 0, 0, 0, 0, 0, 2, 0, 0, 0, 0, 0, 0, 0, 3]⟩ rfl _ _).mono ?_
  rintro e w14 ⟨rfl, hb14⟩
  have bb14 := BB13.out.trans (hb14.mono BB13.out.size)
  have Lq1 := Bx.mk (Lq1.out.below hb14 Lq1.out.lt)
  have Lq3 := Bx.mk (Lq3.out.below hb14 Lq3.out.lt)
  have Lq5 := Bx.mk (Lq5.out.below hb14 Lq5.out.lt)
  have Lq13 := Bx.mk (Lq13.out.below hb14 Lq13.out.lt)
  have BB14 := Bx.mk bb14
  clear bb14 hb14
  go_wp2_with fail
  refine (text_lit 2 ⟨#[0, 1, 0, 0, 0, 0, 0, 2, 0, 0, 0, 0, 0, 0, 0, 3]⟩ ⟨#[49, 58, 48, 58, 48, 58, 50, 58, 58, 51]⟩ (by decide +kernel) _ (HE.out.below BB14.out)).mono ?_
  rintro e w15 ⟨rfl, hb15⟩
  have bb15 := BB14.out.trans (hb15.mono BB14.out.size)
  have Lq1 := Bx.mk (Lq1.out.below hb15 Lq1.out.lt)
  have Lq3 := Bx.mk (Lq3.out.below hb15 Lq3.out.lt)
  have Lq5 := Bx.mk (Lq5.out.below hb15 Lq5.out.lt)
  have Lq13 := Bx.mk (Lq13.out.below hb15 Lq13.out.lt)
  have BB15 := Bx.mk bb15
  clear bb15 hb15
  go_wp2_with fail
  refine (six_lit _ [1, 0, 2, 3, 4, 5, 6, 7] rfl (by decide) ⟨#[0, 1, 0, 0, 0, 2, 0, 3, 0, 4, 0, 5, 0, 6, 0, 7]⟩ rfl _ _).mono ?_
  rintro e w16 ⟨rfl, hb16⟩
  have bb16 := BB15.out.trans (hb16.mono BB15.out.size)
  have Lq1 := Bx.mk (Lq1.out.below hb16 Lq1.out.lt)
  have Lq3 := Bx.mk (Lq3.out.below hb16 Lq3.out.lt)
  have Lq5 := Bx.mk (Lq5.out.below hb16 Lq5.out.lt)
  have Lq13 := Bx.mk (Lq13.out.below hb16 Lq13.out.lt)
  have BB16 := Bx.mk bb16
  clear bb16 hb16
  go_wp2_with fail
  refine (text_lit 2 ⟨#[0, 1, 0, 0, 0, 2, 0, 3, 0, 4, 0, 5, 0, 6, 0, 7]⟩ ⟨#[49, 58, 48, 58, 50, 58, 51, 58, 52, 58, 53, 58, 54, 58, 55]⟩ (by decide +kernel) _ (HE.out.below BB16.out)).mono ?_
  rintro e w17 ⟨rfl, hb17⟩
  have bb17 := BB16.out.trans (hb17.mono BB16.out.size)
  have Lq1 := Bx.mk (Lq1.out.below hb17 Lq1.out.lt)
  have Lq3 := Bx.mk (Lq3.out.below hb17 Lq3.out.lt)
  have Lq5 := Bx.mk (Lq5.out.below hb17 Lq5.out.lt)
  have Lq13 := Bx.mk (Lq13.out.below hb17 Lq13.out.lt)
  have BB17 := Bx.mk bb17
  clear bb17 hb17
  clear BB0 BB1 BB2 BB3 BB4 BB5 BB6 BB7 BB8 BB9 BB10 BB11 BB12 BB13 BB14 BB15 BB16
  have HC : Bx (∀ W', Below w17.heap.size w17 W' → (W'.cell? ⟨q1, 0, none⟩ = some (.int .u8 3) ∧ W'.cell? ⟨q1, 1, none⟩ = some (.string ⟨#[97, 46, 101, 120, 97, 109, 112, 108, 101]⟩) ∧ W'.cell? ⟨q3, 0, none⟩ = some (.int .u8 2) ∧ W'.cell? ⟨q3, 1, none⟩ = some (.string ⟨#[0, 0, 0, 0, 0, 0, 0, 0, 0, 0, 0, 0, 0, 0, 0, 0]⟩) ∧ W'.cell? ⟨q5, 0, none⟩ = some (.int .u8 2) ∧ W'.cell? ⟨q5, 1, none⟩ = some (.string ⟨#[0, 0, 0, 0, 0, 0, 0, 0, 0, 0, 0, 0, 0, 0, 0, 1]⟩) ∧ W'.cell? ⟨q5, 2, none⟩ = some (.int .i64 80) ∧ W'.cell? ⟨q13, 0, none⟩ = some (.int .u8 2) ∧ W'.cell? ⟨q13, 1, none⟩ = some (.string ⟨#[0, 0, 0, 0, 0, 0, 0, 0, 0, 0, 0, 0, 0, 0, 0, 1]⟩))) := ⟨fun W' hW => by
    have hLq1 := Lq1.out.below hW Lq1.out.lt
    have hLq3 := Lq3.out.below hW Lq3.out.lt
    have hLq5 := Lq5.out.below hW Lq5.out.lt
    have hLq13 := Lq13.out.below hW Lq13.out.lt
    exact ⟨hLq1.cell 0, hLq1.cell 1, hLq3.cell 0, hLq3.cell 1, hLq5.cell 0, hLq5.cell 1, hLq5.cell 2, hLq13.cell 0, hLq13.cell 1⟩⟩
  have HEW := Bx.mk (HE.out.below BB17.out)
  clear Lq1 Lq3 Lq5 Lq13
  go_wp2_with fail
  have bb : Below w17.heap.size w17 w17.drew := (Below.refl _ _).drew
  go_region_held3 (fun W' => W'.cell? ⟨q1, 0, none⟩ = some (.int .u8 3) ∧ W'.cell? ⟨q1, 1, none⟩ = some (.string ⟨#[97, 46, 101, 120, 97, 109, 112, 108, 101]⟩) ∧ W'.cell? ⟨q3, 0, none⟩ = some (.int .u8 2) ∧ W'.cell? ⟨q3, 1, none⟩ = some (.string ⟨#[0, 0, 0, 0, 0, 0, 0, 0, 0, 0, 0, 0, 0, 0, 0, 0]⟩) ∧ W'.cell? ⟨q5, 0, none⟩ = some (.int .u8 2) ∧ W'.cell? ⟨q5, 1, none⟩ = some (.string ⟨#[0, 0, 0, 0, 0, 0, 0, 0, 0, 0, 0, 0, 0, 0, 0, 1]⟩) ∧ W'.cell? ⟨q5, 2, none⟩ = some (.int .i64 80) ∧ W'.cell? ⟨q13, 0, none⟩ = some (.int .u8 2) ∧ W'.cell? ⟨q13, 1, none⟩ = some (.string ⟨#[0, 0, 0, 0, 0, 0, 0, 0, 0, 0, 0, 0, 0, 0, 0, 1]⟩))
    (first | exact HC.out _ bb | exact HC.out _ (bb.alloc bb.size _))
    (first
      | (go_at_call 19; refine (six_lit w17.drew [0, 0, 0, 0, 0, 0, 0, 0] rfl (by decide) ⟨#[0, 0, 0, 0, 0, 0, 0, 0, 0, 0, 0, 0, 0, 0, 0, 0]⟩ rfl _ _).mono ?_; rintro e wz ⟨rfl, hbz⟩; replace bb := bb.trans (hbz.mono bb.size); clear hbz)
      | (go_at_call 16; refine (print_lit 2 ⟨#[0, 0, 0, 0, 0, 0, 0, 0, 0, 0, 0, 0, 0, 0, 0, 1]⟩ ⟨#[91, 58, 58, 49, 93, 58, 56, 48]⟩ 80 (by decide +kernel) _ (HEW.out.below bb)).mono ?_; rintro e wz ⟨rfl, hbz⟩; replace bb := bb.trans (hbz.mono bb.size); clear hbz)
      | (go_at_call 34; refine (none_lit _ (HEW.out.below bb) _ _).mono ?_; rintro e wz ⟨rfl, hbz⟩; replace bb := bb.trans (hbz.mono bb.size); clear hbz))
  all_goals
    have HB3 := Bx.mk (BB17.out.trans (bb.mono BB17.out.size))
    clear bb
    go_wp2
    go_ret
    exact ⟨rfl, HB3.out⟩
end Go.Proofs.YtpllhnknejceiaaGreatDoor.hw
