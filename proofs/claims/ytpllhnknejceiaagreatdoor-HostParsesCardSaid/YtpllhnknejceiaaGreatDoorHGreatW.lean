/-
  Given for the seat's laws: HostGreat at any text and any places. No condition but those of the theorems.
-/
import Derived.Test.YtpllhnknejceiaaGreatDoorHGreat
namespace Go.Proofs.YtpllhnknejceiaaGreatDoor.hw
open Go.RowKit mem hostp own
set_option linter.unusedVariables false

theorem HPv_form (o : Option H) : ∃ (k : Int) (t : ByteArray) (e : Int), HPv o = .tuple #[.agg #[.int .u8 k, .string t], .int .i64 e] := by
  cases o with
  | none => exact ⟨0, ⟨#[]⟩, 40, rfl⟩
  | some h => exact ⟨_, _, 0, rfl⟩
theorem PTv_form (o : Option T) : ∃ (k : Int) (t : ByteArray) (p e : Int), PTv o = .tuple #[.agg #[.int .u8 k, .string t, .int .i64 p], .int .i64 e] := by
  cases o with
  | none => exact ⟨0, ⟨#[]⟩, 0, 40, rfl⟩
  | some h => exact ⟨_, _, _, 0, rfl⟩

set_option maxRecDepth 100000 in
set_option maxHeartbeats 1600000 in
theorem great_at {w : World} (he : Env w) (l : Str) {A : Option Addr} {n c : Nat} {ws : List Bool} (hw : Bools w A n ws) : Calls Tryz.prog 6 #[.string (S l), .slice A n c] w (Gives (.bool true) w) := by
  have hsz : (S l).size = l.length := S_size l
  obtain ⟨m, hm⟩ : ∃ m, l.length = m := ⟨_, rfl⟩
  rw [hm] at hsz
  have HAW := Bx.mk (awake_any w he)
  by_cases h2 : 2000 < m
  · clear hm hw
    go_enter Tryz.func6, Tryz.ntmps6
    go_wp2_with fail
    refine HAW.out.mono ?_
    rintro e w1 ⟨rfl, hb1⟩
    have HB1 := Bx.mk hb1
    clear hb1
    go_wp2_with fail
    go_ret
    exact ⟨rfl, HB1.out⟩
  · have h2m : m ≤ 2000 := by omega
    have hup := fun W (hW : Below w.heap.size w W) => upper_any (w := W) (A := A) (n := n) (c := c) (ws := ws) l (by omega) (hw.below hW)
    obtain ⟨u, hu⟩ : ∃ u, u = S (up l ws) := ⟨_, rfl⟩
    have hus : u.size ≤ 3000 := by rw [hu, S_size, up_len]; omega
    have hud : u.data.toList = up l ws := by rw [hu, S_list]
    have hpe : parse u.data.toList = parse l := by rw [hud]; exact parse_low (low_up l ws)
    have hte : parseT u.data.toList = parseT l := by rw [hud]; exact parseT_low (low_up l ws)
    have hp1 := fun W (hW : Below w.heap.size w W) => parse_any (S l) (by rw [hsz]; omega) W (he.below hW)
    have hp2 := fun W (hW : Below w.heap.size w W) => parse_any u hus W (he.below hW)
    have ht1 := fun W (hW : Below w.heap.size w W) => parseTarget_any (S l) (by rw [hsz]; omega) W (he.below hW)
    have ht2 := fun W (hW : Below w.heap.size w W) => parseTarget_any u hus W (he.below hW)
    rw [S_list] at hp1 ht1
    rw [hpe] at hp2
    rw [hte] at ht2
    rw [← hu] at hup
    obtain ⟨k, t, e0, hf⟩ := HPv_form (parse l)
    obtain ⟨k2, t2, p2, e2, hf2⟩ := PTv_form (parseT l)
    rw [hf] at hp1 hp2
    rw [hf2] at ht1 ht2
    have HP1 := Bx.mk hp1
    have HP2 := Bx.mk hp2
    have HT1 := Bx.mk ht1
    have HT2 := Bx.mk ht2
    have HUP := Bx.mk hup
    have s1 : (t.toList == t.toList) = true := beq_self_eq_true _
    have s2 : (t2.toList == t2.toList) = true := beq_self_eq_true _
    have s3 : (k == k) = true := beq_self_eq_true _
    have s4 : (k2 == k2) = true := beq_self_eq_true _
    have s5 : (p2 == p2) = true := beq_self_eq_true _
    have s6 : (e0 == e0) = true := beq_self_eq_true _
    have s7 : (e2 == e2) = true := beq_self_eq_true _
    clear hm hw he hup hu hud hpe hte hp1 hp2 ht1 ht2 hf hf2 h2 hus
    go_enter Tryz.func6, Tryz.ntmps6
    go_wp2_with fail
    refine HAW.out.mono ?_
    rintro e w1 ⟨rfl, hb1⟩
    have HB1 := Bx.mk hb1
    clear hb1
    go_wp2_with fail
    refine (HP1.out _ HB1.out).mono ?_
    rintro e w2 ⟨rfl, hb2⟩
    obtain ⟨v2, hv2⟩ : ∃ v, v = w2.alloc (.cells #[.int .u8 k, .string t] 23) := ⟨_, rfl⟩
    obtain ⟨q2, hq2⟩ : ∃ b, b = w2.heap.size := ⟨_, rfl⟩
    have L2 : Bx (Lies v2 q2 23 #[.int .u8 k, .string t]) := ⟨by rw [hv2, hq2]; exact Lies.new _ _ _⟩
    have BB2 := Bx.mk (show Below w.heap.size w v2 by rw [hv2]; exact (HB1.out.trans (hb2.mono HB1.out.size)).alloc (HB1.out.trans (hb2.mono HB1.out.size)).size _)
    clear hb2
    go_upto_region 6 with fail
    rw [← hv2, ← hq2]
    clear hv2 hq2
    go_wp2_with fail
    refine (HUP.out _ BB2.out).mono ?_
    rintro e w3 ⟨rfl, hb3⟩
    have L3 := Bx.mk (L2.out.below hb3 L2.out.lt)
    have BB3 := Bx.mk (BB2.out.trans (hb3.mono BB2.out.size))
    clear hb3 L2
    go_wp2_with fail
    refine (HP2.out _ BB3.out).mono ?_
    rintro e w4 ⟨rfl, hb4⟩
    obtain ⟨v4, hv4⟩ : ∃ v, v = w4.alloc (.cells #[.int .u8 k, .string t] 23) := ⟨_, rfl⟩
    obtain ⟨q4, hq4⟩ : ∃ b, b = w4.heap.size := ⟨_, rfl⟩
    have M4 : Bx (Lies v4 q4 23 #[.int .u8 k, .string t]) := ⟨by rw [hv4, hq4]; exact Lies.new _ _ _⟩
    have L4 : Bx (Lies v4 q2 23 #[.int .u8 k, .string t]) := ⟨by rw [hv4]; exact (L3.out.below hb4 L3.out.lt).alloc _⟩
    have BB4 := Bx.mk (show Below w.heap.size w v4 by rw [hv4]; exact (BB3.out.trans (hb4.mono BB3.out.size)).alloc (BB3.out.trans (hb4.mono BB3.out.size)).size _)
    clear hb4 L3
    go_upto_region 7 with fail
    rw [← hv4, ← hq4]
    clear hv4 hq4
    go_wp2_with fail
    refine (HT1.out _ BB4.out).mono ?_
    rintro e w5 ⟨rfl, hb5⟩
    obtain ⟨v5, hv5⟩ : ∃ v, v = w5.alloc (.cells #[.int .u8 k2, .string t2, .int .i64 p2] 30) := ⟨_, rfl⟩
    obtain ⟨q5, hq5⟩ : ∃ b, b = w5.heap.size := ⟨_, rfl⟩
    have N5 : Bx (Lies v5 q5 30 #[.int .u8 k2, .string t2, .int .i64 p2]) := ⟨by rw [hv5, hq5]; exact Lies.new _ _ _⟩
    have L5 : Bx (Lies v5 q2 23 #[.int .u8 k, .string t]) := ⟨by rw [hv5]; exact (L4.out.below hb5 L4.out.lt).alloc _⟩
    have M5 : Bx (Lies v5 q4 23 #[.int .u8 k, .string t]) := ⟨by rw [hv5]; exact (M4.out.below hb5 M4.out.lt).alloc _⟩
    have BB5 := Bx.mk (show Below w.heap.size w v5 by rw [hv5]; exact (BB4.out.trans (hb5.mono BB4.out.size)).alloc (BB4.out.trans (hb5.mono BB4.out.size)).size _)
    clear hb5 L4 M4
    go_upto_region 8 with fail
    rw [← hv5, ← hq5]
    clear hv5 hq5
    go_wp2_with fail
    refine (HUP.out _ BB5.out).mono ?_
    rintro e w6 ⟨rfl, hb6⟩
    have L6 := Bx.mk (L5.out.below hb6 L5.out.lt)
    have M6 := Bx.mk (M5.out.below hb6 M5.out.lt)
    have N6 := Bx.mk (N5.out.below hb6 N5.out.lt)
    have BB6 := Bx.mk (BB5.out.trans (hb6.mono BB5.out.size))
    clear hb6 L5 M5 N5
    go_wp2_with fail
    refine (HT2.out _ BB6.out).mono ?_
    rintro e w7 ⟨rfl, hb7⟩
    obtain ⟨v7, hv7⟩ : ∃ v, v = w7.alloc (.cells #[.int .u8 k2, .string t2, .int .i64 p2] 30) := ⟨_, rfl⟩
    obtain ⟨q7, hq7⟩ : ∃ b, b = w7.heap.size := ⟨_, rfl⟩
    have O7 : Lies v7 q7 30 #[.int .u8 k2, .string t2, .int .i64 p2] := by rw [hv7, hq7]; exact Lies.new _ _ _
    have L7 : Lies v7 q2 23 #[.int .u8 k, .string t] := by rw [hv7]; exact (L6.out.below hb7 L6.out.lt).alloc _
    have M7 : Lies v7 q4 23 #[.int .u8 k, .string t] := by rw [hv7]; exact (M6.out.below hb7 M6.out.lt).alloc _
    have N7 : Lies v7 q5 30 #[.int .u8 k2, .string t2, .int .i64 p2] := by rw [hv7]; exact (N6.out.below hb7 N6.out.lt).alloc _
    have BB7 := Bx.mk (show Below w.heap.size w v7 by rw [hv7]; exact (BB6.out.trans (hb7.mono BB6.out.size)).alloc (BB6.out.trans (hb7.mono BB6.out.size)).size _)
    have a0 := L7.cell 0
    have a1 := L7.cell 1
    have b0 := M7.cell 0
    have b1 := M7.cell 1
    have c0 := N7.cell 0
    have c1 := N7.cell 1
    have c2 := N7.cell 2
    have d0 := O7.cell 0
    have d1 := O7.cell 1
    have d2 := O7.cell 2
    simp at a0 a1 b0 b1 c0 c1 c2 d0 d1 d2
    clear hb7 L6 M6 N6 L7 M7 N7 O7
    go_upto_region 9 with fail
    rw [← hv7, ← hq7]
    clear hv7 hq7
    go_wp2_with fail
    go_ret
    exact ⟨rfl, BB7.out⟩
theorem great_any {w : World} (he : Env w) (s : ByteArray) {A : Option Addr} {n c : Nat} {ws : List Bool} (hw : Bools w A n ws) : Calls Tryz.prog 6 #[.string s, .slice A n c] w (Gives (.bool true) w) := by
  have h := great_at (c := c) he s.data.toList hw
  rwa [S_data] at h
end Go.Proofs.YtpllhnknejceiaaGreatDoor.hw
