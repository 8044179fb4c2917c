/-
  Given for the seat's laws: ConnectOnce at any bytes and any bytes behind. No condition but those of the theorems.
-/
import Derived.Test.YtghdaengkgiekaaGreatDoorYCTake
import Derived.Test.YtghdaengkgiekaaGreatDoorYKOn
namespace Go.Proofs.YtghdaengkgiekaaGreatDoor.cn
open Go.RowKit mem hd
set_option linter.unusedVariables false

theorem asked_err (l : Str) (fs : Flds) : (asked l fs).2 ≠ 5 := by
  unfold asked
  cases ht : tgt l with
  | error k =>
    dsimp only
    rcases tgt_err ht with rfl | rfl <;> decide
  | ok t =>
    dsimp only
    split <;> simp
theorem ctake_eq {b l : Str} {fs : Flds} {n e : Nat} (h : take b = (l, fs, n, e)) : ctake b = if e ≠ 0 then (zero, 0, e) else if (asked l fs).2 ≠ 0 then (zero, 0, (asked l fs).2) else ((asked l fs).1, n, 0) := by
  unfold ctake
  rw [h] <;> rfl
theorem rtake_eq {b l : Str} {fs : Flds} {n e : Nat} (h : take b = (l, fs, n, e)) : rtake b = if e ≠ 0 then (0, 0, e) else match stat l with
    | none => (0, 0, 6)
    | some s => (s, n, 0) := by
  unfold rtake
  rw [h] <;> rfl
structure Facts (b : Str) (n : Nat) : Prop where
  more : (take b).2.2.2 = 5 → ctake b = (zero, 0, 5) ∧ rtake b = (0, 0, 5)
  app : (take b).2.2.2 ≠ 5 → ∀ m, ctake (b ++ m) = ctake b ∧ rtake (b ++ m) = rtake b
  err : (take b).2.2.2 ≠ 5 → (ctake b).2.2 ≠ 5 ∧ (rtake b).2.2 ≠ 5
  le : (ctake b).2.1 ≤ n ∧ (rtake b).2.1 ≤ n
  part : ∀ i, i < (ctake b).2.1 → ctake (b.take i) = (zero, 0, 5)
theorem facts (b : Str) : Facts b b.length := by
  obtain ⟨l, fs, n, e, h⟩ : ∃ l fs n e, take b = (l, fs, n, e) := ⟨_, _, _, _, rfl⟩
  have hn := take_n_le b
  rw [h] at hn
  have hc := ctake_eq h
  have hr := rtake_eq h
  refine ⟨fun h5 => ?_, fun h5 m => ?_, fun h5 => ?_, ⟨?_, ?_⟩, fun i hi => ?_⟩
  · rw [h] at h5
    have h5' : e = 5 := h5
    rw [hc, hr, h5']
    exact ⟨rfl, rfl⟩
  · have ht := take_app m h5
    have h' := ht.trans h
    rw [hc, hr, ctake_eq h', rtake_eq h']
    exact ⟨rfl, rfl⟩
  · rw [h] at h5
    have h5' : e ≠ 5 := h5
    rw [hc, hr]
    by_cases h0 : e = 0
    · rw [if_neg (show ¬ e ≠ 0 by simpa using h0), if_neg (show ¬ e ≠ 0 by simpa using h0)]
      constructor
      · split
        · exact asked_err l fs
        · simp
      · cases stat l <;> simp
    · rw [if_pos (show e ≠ 0 from h0), if_pos (show e ≠ 0 from h0)]
      exact ⟨h5', h5'⟩
  · rw [hc]
    split
    · exact Nat.zero_le _
    · split
      · exact Nat.zero_le _
      · exact hn
  · rw [hr]
    split
    · exact Nat.zero_le _
    · cases stat l
      · exact Nat.zero_le _
      · exact hn
  · have hi2 : i < n ∧ e = 0 := by
      rw [hc] at hi
      split at hi
      · exact absurd hi (by simp)
      · rename_i h0
        split at hi
        · exact absurd hi (by simp)
        · exact ⟨hi, by simpa using h0⟩
    have hp := take_part (b := b) (by rw [h]; exact hi2.2) (j := i) (by rw [h]; exact hi2.1)
    rw [ctake_eq hp]
    rfl
theorem av_form (a : A) : ∃ (k : Int) (t : ByteArray) (p : Int) (sg : Bool) (us ps : ByteArray) (hp : Bool) (tk : ByteArray), av a = .agg #[.int .u8 k, .string t, .int .i64 p, .bool sg, .string us, .string ps, .bool hp, .string tk] := ⟨_, _, _, _, _, _, _, _, rfl⟩
theorem av_self (a : A) {x : Value} (h : av a = x) (W : World) : (Op.equalIn 10000 27 x x).run Tryz.prog W = .ok true W := by
  rw [← h, eq_ask, decide_eq_true rfl]
theorem sp_next {W W' : World} {A : Option Addr} {n c : Nat} {b : Str} (h : Spell W (fun g => g < W.heap.size) A n c b) (hb : Below W.heap.size W W') : Spell W' (fun g => g < W'.heap.size) A n c b :=
  (h.below hb (fun g hg => hg)).weak fun g hg => Nat.lt_of_lt_of_le hg hb.size
set_option maxHeartbeats 4000000 in
set_option maxRecDepth 100000 in
theorem once_big {w : World} (he : hw.Env w) {A B : Option Addr} {n c m d : Nat} (hq : 600 < n ∨ 300 < m) : Calls Tryz.prog 5 #[.slice A n c, .slice B m d] w (True_ w) := by
  have HAW := Bx.mk (awake_any he)
  rcases (show 600 < n ∨ (¬ 600 < n ∧ 300 < m) by omega) with h0 | ⟨h0, h1⟩
  · have q : (600 : Int) < (n : Int) := by omega
    clear hq h0 he
    go_enter Tryz.func5, Tryz.ntmps5
    go_wp2_with fail
    refine HAW.out.mono ?_
    rintro e w1 ⟨rfl, hb1⟩
    have HB1 := Bx.mk hb1
    clear hb1
    go_wp2_with fail
    exact bodyPost_ret (v := .bool true) (by simp [results, Tryz.results5, go_sem]) rfl ⟨rfl, HB1.out⟩
  · have q : ¬ (600 : Int) < (n : Int) := by omega
    have q2 : (300 : Int) < (m : Int) := by omega
    clear hq h0 h1 he
    go_enter Tryz.func5, Tryz.ntmps5
    go_wp2_with fail
    refine HAW.out.mono ?_
    rintro e w1 ⟨rfl, hb1⟩
    have HB1 := Bx.mk hb1
    clear hb1
    go_wp2_with fail
    exact bodyPost_ret (v := .bool true) (by simp [results, Tryz.results5, go_sem]) rfl ⟨rfl, HB1.out⟩
set_option maxHeartbeats 8000000 in
set_option maxRecDepth 100000 in
theorem once_more {w : World} (he : hw.Env w) {A B : Option Addr} {n c m d : Nat} {b ds : Str} (hs : Spell w (fun g => g < w.heap.size) A n c b) (hd : Spell w (fun g => g < w.heap.size) B m d ds) (hn : n ≤ 600) (hm : m ≤ 300) (h5 : (take b).2.2.2 = 5) : Calls Tryz.prog 5 #[.slice A n c, .slice B m d] w (True_ w) := by
  have HAW := Bx.mk (awake_any he)
  have hbl := spell_len hs
  have hdl := spell_len hd
  have hfa := facts b
  rw [hbl] at hfa
  have q0 : ¬ (600 : Int) < (n : Int) := by omega
  have q1 : ¬ (300 : Int) < (m : Int) := by omega
  obtain ⟨hcb, hrb⟩ := hfa.more h5
  obtain ⟨ac, nc, ec, hca⟩ : ∃ a n e, ctake (b ++ ds) = (a, n, e) := ⟨_, _, _, rfl⟩
  obtain ⟨sc, oc, fc, hra⟩ : ∃ a n e, rtake (b ++ ds) = (a, n, e) := ⟨_, _, _, rfl⟩
  obtain ⟨k, t, p, sg, us, ps, hp, tk, hav⟩ := av_form ac
  have HTb : Bx (∀ W A n c, hw.Env W → Spell W (fun g => g < W.heap.size) A n c b → Calls Tryz.prog 17 #[.slice A n c] W (Gives (.tuple #[.agg #[.int .u8 0, .string ⟨#[]⟩, .int .i64 0, .bool false, .string ⟨#[]⟩, .string ⟨#[]⟩, .bool false, .string ⟨#[]⟩], .int .i64 0, .int .i64 5]) W)) := ⟨fun W A n c he hs => by have h := ctake_any he hs; rw [hcb] at h; exact h⟩
  have HTa : Bx (∀ W A n c, hw.Env W → Spell W (fun g => g < W.heap.size) A n c (b ++ ds) → Calls Tryz.prog 17 #[.slice A n c] W (Gives (.tuple #[.agg #[.int .u8 k, .string t, .int .i64 p, .bool sg, .string us, .string ps, .bool hp, .string tk], .int .i64 (nc : Int), .int .i64 (ec : Int)]) W)) := ⟨fun W A n c he hs => by have h := ctake_any he hs; rw [hca] at h; unfold CTakeTo at h; rw [hav] at h; exact h⟩
  have HRb : Bx (∀ W A n c, hw.Env W → Spell W (fun g => g < W.heap.size) A n c b → Calls Tryz.prog 18 #[.slice A n c] W (Gives (.tuple #[.int .i64 0, .int .i64 0, .int .i64 5]) W)) := ⟨fun W A n c he hs => by have h := rtake_any he hs; rw [hrb] at h; exact h⟩
  have HRa : Bx (∀ W A n c, hw.Env W → Spell W (fun g => g < W.heap.size) A n c (b ++ ds) → Calls Tryz.prog 18 #[.slice A n c] W (Gives (.tuple #[.int .i64 (sc : Int), .int .i64 (oc : Int), .int .i64 (fc : Int)]) W)) := ⟨fun W A n c he hs => by have h := rtake_any he hs; rw [hra] at h; exact h⟩
  have hn0 : (0 : Int) ≤ (n : Int) := by omega
  clear hcb hrb hca hra hav hfa
  have HS := Bx.mk hs
  have HD := Bx.mk hd
  have HBL := Bx.mk hbl
  have HDL := Bx.mk hdl
  have HE := Bx.mk he
  clear hs hd hbl hdl h5 he
  go_enter Tryz.func5, Tryz.ntmps5
  go_wp2_with fail
  refine HAW.out.mono ?_
  rintro e w1 ⟨rfl, hb1⟩
  obtain ⟨A2, c2, w3, A3, c3, w4, ha2, ha3, hm3⟩ := both (sp_next HS.out hb1) (sp_next HD.out hb1) (by omega) (by omega)
  have HA2 := Bx.mk ha2
  have HA3 := Bx.mk ha3
  have HL3 : Bx ((b ++ ds).length = n + m) := ⟨by rw [List.length_append, HBL.out, HDL.out]⟩
  have HM4 := Bx.mk (made_spell hm3 HL3.out)
  have hb4 := hb1.trans (hm3.below.mono hb1.size)
  have HB4 := Bx.mk hb4
  have HS4 := Bx.mk (sp_next HS.out hb4)
  have HT1 := Bx.mk (HTb.out w4 A n c (HE.out.below hb4) (sp_next HS.out hb4))
  clear ha2 ha3 hm3 hb1 hb4 HAW HD HS HL3
  go_wp2_with (at_builtin; first | (refine wpList_append_eq rfl _ _ rfl rfl rfl rfl HA2.out ?_; clear HA2) | (refine wpList_append_eq rfl _ _ rfl rfl rfl rfl HA3.out ?_; clear HA3))
  refine HT1.out.mono ?_
  rintro e w5 ⟨rfl, hb5⟩
  have hb5a := hb5.alloc hb5.size (.cells #[.int .u8 0, .string ⟨#[]⟩, .int .i64 0, .bool false, .string ⟨#[]⟩, .string ⟨#[]⟩, .bool false, .string ⟨#[]⟩] 27)
  have HL5 := Bx.mk (Lies.new w5 27 #[.int .u8 0, .string ⟨#[]⟩, .int .i64 0, .bool false, .string ⟨#[]⟩, .string ⟨#[]⟩, .bool false, .string ⟨#[]⟩])
  have HS5 := Bx.mk (sp_next HS4.out hb5a)
  have HM5 := Bx.mk (sp_next HM4.out hb5a)
  have HB5 := Bx.mk (HB4.out.trans (hb5a.mono HB4.out.size))
  clear hb5 hb5a HS4 HM4 HB4 HT1
  go_upto_region 7 with fail
  generalize w5.alloc (.cells #[.int .u8 0, .string ⟨#[]⟩, .int .i64 0, .bool false, .string ⟨#[]⟩, .string ⟨#[]⟩, .bool false, .string ⟨#[]⟩] 27) = W5 at *
  generalize w5.heap.size = g5 at *
  have HT2 := Bx.mk (HTa.out W5 _ _ _ (HE.out.below HB5.out) HM5.out)
  go_wp2_with fail
  refine HT2.out.mono ?_
  rintro e w6 ⟨rfl, hb6⟩
  have hb6a := hb6.alloc hb6.size (.cells #[.int .u8 k, .string t, .int .i64 p, .bool sg, .string us, .string ps, .bool hp, .string tk] 27)
  have HL6 := Bx.mk (HL5.out.below hb6a HL5.out.lt)
  have HK6 := Bx.mk (Lies.new w6 27 #[.int .u8 k, .string t, .int .i64 p, .bool sg, .string us, .string ps, .bool hp, .string tk])
  have HS6 := Bx.mk (sp_next HS5.out hb6a)
  have HM6 := Bx.mk (sp_next HM5.out hb6a)
  have HB6 := Bx.mk (HB5.out.trans (hb6a.mono HB5.out.size))
  clear hb6 hb6a HS5 HM5 HB5 HT2 HL5
  go_upto_region 8 with fail
  generalize w6.alloc (.cells #[.int .u8 k, .string t, .int .i64 p, .bool sg, .string us, .string ps, .bool hp, .string tk] 27) = W6 at *
  generalize w6.heap.size = g6 at *
  have HT3 := Bx.mk (HRb.out W6 _ _ _ (HE.out.below HB6.out) HS6.out)
  go_wp2_with fail
  refine HT3.out.mono ?_
  rintro e w7 ⟨rfl, hb7⟩
  have HL7 := Bx.mk (HL6.out.below hb7 HL6.out.lt)
  have HK7 := Bx.mk (HK6.out.below hb7 HK6.out.lt)
  have HS7 := Bx.mk (sp_next HS6.out hb7)
  have HM7 := Bx.mk (sp_next HM6.out hb7)
  have HB7 := Bx.mk (HB6.out.trans (hb7.mono HB6.out.size))
  have HT4 := Bx.mk (HRa.out w7 _ _ _ (HE.out.below HB7.out) HM7.out)
  clear hb7 HT3 HS6 HM6 HL6 HK6 HB6
  go_wp2_with fail
  refine HT4.out.mono ?_
  rintro e w8 ⟨rfl, hb8⟩
  have HL8 := Bx.mk (HL7.out.below hb8 HL7.out.lt)
  have HK8 := Bx.mk (HK7.out.below hb8 HK7.out.lt)
  have HS8 := Bx.mk (sp_next HS7.out hb8)
  have HB8 := Bx.mk (HB7.out.trans (hb8.mono HB7.out.size))
  clear hb8 HT4 HS7 HM7 HL7 HK7 HB7
  obtain ⟨r0, r1, r2, r3, r4, r5, r6, r7⟩ := eight HL8.out
  obtain ⟨m0, m1, m2, m3, m4, m5, m6, m7⟩ := eight HK8.out
  go_wp2_with fail
  clear r0 r1 r2 r3 r4 r5 r6 r7 m0 m1 m2 m3 m4 m5 m6 m7
  go_loopw [18, 19, 20, 21] (fun s18 s19 s20 s21 wr => s18 = .int .i64 0 ∧ Bx (Below w.heap.size w wr)) (fun _ _ _ _ _ => 0)
  case atStart => exact ⟨rfl, HB8⟩
  case round =>
    clear HB8
    obtain ⟨rfl, HR⟩ := hrel
    go_wp2_with fail
    exact bodyPost_ret (v := .bool true) (by simp [results, Tryz.results5, go_sem]) rfl ⟨rfl, HR.out⟩
set_option maxHeartbeats 8000000 in
set_option maxRecDepth 100000 in
theorem once_done {w : World} (he : hw.Env w) {A B : Option Addr} {n c m d : Nat} {b ds : Str} (hs : Spell w (fun g => g < w.heap.size) A n c b) (hd : Spell w (fun g => g < w.heap.size) B m d ds) (hn : n ≤ 600) (hm : m ≤ 300) (h5 : (take b).2.2.2 ≠ 5) : Calls Tryz.prog 5 #[.slice A n c, .slice B m d] w (True_ w) := by
  have HAW := Bx.mk (awake_any he)
  have hbl := spell_len hs
  have hdl := spell_len hd
  have hfa := facts b
  rw [hbl] at hfa
  have q0 : ¬ (600 : Int) < (n : Int) := by omega
  have q1 : ¬ (300 : Int) < (m : Int) := by omega
  obtain ⟨e1, e2⟩ := hfa.app h5 ds
  obtain ⟨f1, f2⟩ := hfa.err h5
  obtain ⟨g1, g2⟩ := hfa.le
  have hpt := hfa.part
  obtain ⟨ac, nc, ec, hca⟩ : ∃ a n e, ctake b = (a, n, e) := ⟨_, _, _, rfl⟩
  obtain ⟨sc, oc, fc, hra⟩ : ∃ a n e, rtake b = (a, n, e) := ⟨_, _, _, rfl⟩
  rw [hca] at e1 f1 g1 hpt
  rw [hra] at e2 f2 g2
  dsimp only at f1 f2 g1 g2 hpt
  obtain ⟨k, t, p, sg, us, ps, hp, tk, hav⟩ := av_form ac
  have HEq := fun W => av_self ac hav W
  have HTb : Bx (∀ W A n c, hw.Env W → Spell W (fun g => g < W.heap.size) A n c b → Calls Tryz.prog 17 #[.slice A n c] W (Gives (.tuple #[.agg #[.int .u8 k, .string t, .int .i64 p, .bool sg, .string us, .string ps, .bool hp, .string tk], .int .i64 (nc : Int), .int .i64 (ec : Int)]) W)) := ⟨fun W A n c he hs => by have h := ctake_any he hs; rw [hca] at h; unfold CTakeTo at h; rw [hav] at h; exact h⟩
  have HTa : Bx (∀ W A n c, hw.Env W → Spell W (fun g => g < W.heap.size) A n c (b ++ ds) → Calls Tryz.prog 17 #[.slice A n c] W (Gives (.tuple #[.agg #[.int .u8 k, .string t, .int .i64 p, .bool sg, .string us, .string ps, .bool hp, .string tk], .int .i64 (nc : Int), .int .i64 (ec : Int)]) W)) := ⟨fun W A n c he hs => by have h := ctake_any he hs; rw [e1] at h; unfold CTakeTo at h; rw [hav] at h; exact h⟩
  have HRb : Bx (∀ W A n c, hw.Env W → Spell W (fun g => g < W.heap.size) A n c b → Calls Tryz.prog 18 #[.slice A n c] W (Gives (.tuple #[.int .i64 (sc : Int), .int .i64 (oc : Int), .int .i64 (fc : Int)]) W)) := ⟨fun W A n c he hs => by have h := rtake_any he hs; rw [hra] at h; exact h⟩
  have HRa : Bx (∀ W A n c, hw.Env W → Spell W (fun g => g < W.heap.size) A n c (b ++ ds) → Calls Tryz.prog 18 #[.slice A n c] W (Gives (.tuple #[.int .i64 (sc : Int), .int .i64 (oc : Int), .int .i64 (fc : Int)]) W)) := ⟨fun W A n c he hs => by have h := rtake_any he hs; rw [e2] at h; exact h⟩
  have HPt : Bx (∀ i, i < nc → ∀ W A n c, hw.Env W → Spell W (fun g => g < W.heap.size) A n c (b.take i) → Calls Tryz.prog 17 #[.slice A n c] W (Gives (.tuple #[.agg #[.int .u8 0, .string ⟨#[]⟩, .int .i64 0, .bool false, .string ⟨#[]⟩, .string ⟨#[]⟩, .bool false, .string ⟨#[]⟩], .int .i64 0, .int .i64 5]) W)) := ⟨fun i hi W A n c he hs => by have h := ctake_any he hs; rw [hpt i hi] at h; exact h⟩
  have qe : ((ec : Int) != 5) = true := by simp; omega
  have qf : ((fc : Int) != 5) = true := by simp; omega
  have qe2 : ((ec : Int) == 5) = false := by rw [beq_eq_false_iff_ne]; omega
  have qf2 : ((fc : Int) == 5) = false := by rw [beq_eq_false_iff_ne]; omega
  have hnn : (nc : Int) ≤ (n : Int) := by omega
  have hoo : (oc : Int) ≤ (n : Int) := by omega
  clear hca hra hav hfa e1 e2 f1 f2 g2 hpt
  have HS := Bx.mk hs
  have HD := Bx.mk hd
  have HBL := Bx.mk hbl
  have HDL := Bx.mk hdl
  have HE := Bx.mk he
  clear hs hd hbl hdl h5 he
  go_enter Tryz.func5, Tryz.ntmps5
  go_wp2_with fail
  refine HAW.out.mono ?_
  rintro e w1 ⟨rfl, hb1⟩
  obtain ⟨A2, c2, w3, A3, c3, w4, ha2, ha3, hm3⟩ := both (sp_next HS.out hb1) (sp_next HD.out hb1) (by omega) (by omega)
  have HA2 := Bx.mk ha2
  have HA3 := Bx.mk ha3
  have HL3 : Bx ((b ++ ds).length = n + m) := ⟨by rw [List.length_append, HBL.out, HDL.out]⟩
  have HM4 := Bx.mk (made_spell hm3 HL3.out)
  have hb4 := hb1.trans (hm3.below.mono hb1.size)
  have HB4 := Bx.mk hb4
  have HS4 := Bx.mk (sp_next HS.out hb4)
  have HT1 := Bx.mk (HTb.out w4 A n c (HE.out.below hb4) (sp_next HS.out hb4))
  clear ha2 ha3 hm3 hb1 hb4 HAW HD HS HL3
  go_wp2_with (at_builtin; first | (refine wpList_append_eq rfl _ _ rfl rfl rfl rfl HA2.out ?_; clear HA2) | (refine wpList_append_eq rfl _ _ rfl rfl rfl rfl HA3.out ?_; clear HA3))
  refine HT1.out.mono ?_
  rintro e w5 ⟨rfl, hb5⟩
  have hb5a := hb5.alloc hb5.size (.cells #[.int .u8 k, .string t, .int .i64 p, .bool sg, .string us, .string ps, .bool hp, .string tk] 27)
  have HL5 := Bx.mk (Lies.new w5 27 #[.int .u8 k, .string t, .int .i64 p, .bool sg, .string us, .string ps, .bool hp, .string tk])
  have HS5 := Bx.mk (sp_next HS4.out hb5a)
  have HM5 := Bx.mk (sp_next HM4.out hb5a)
  have HB5 := Bx.mk (HB4.out.trans (hb5a.mono HB4.out.size))
  clear hb5 hb5a HS4 HM4 HB4 HT1
  go_upto_region 7 with fail
  generalize w5.alloc (.cells #[.int .u8 k, .string t, .int .i64 p, .bool sg, .string us, .string ps, .bool hp, .string tk] 27) = W5 at *
  generalize w5.heap.size = g5 at *
  have HT2 := Bx.mk (HTa.out W5 _ _ _ (HE.out.below HB5.out) HM5.out)
  go_wp2_with fail
  refine HT2.out.mono ?_
  rintro e w6 ⟨rfl, hb6⟩
  have hb6a := hb6.alloc hb6.size (.cells #[.int .u8 k, .string t, .int .i64 p, .bool sg, .string us, .string ps, .bool hp, .string tk] 27)
  have HL6 := Bx.mk (HL5.out.below hb6a HL5.out.lt)
  have HK6 := Bx.mk (Lies.new w6 27 #[.int .u8 k, .string t, .int .i64 p, .bool sg, .string us, .string ps, .bool hp, .string tk])
  have HS6 := Bx.mk (sp_next HS5.out hb6a)
  have HM6 := Bx.mk (sp_next HM5.out hb6a)
  have HB6 := Bx.mk (HB5.out.trans (hb6a.mono HB5.out.size))
  clear hb6 hb6a HS5 HM5 HB5 HT2 HL5
  go_upto_region 8 with fail
  generalize w6.alloc (.cells #[.int .u8 k, .string t, .int .i64 p, .bool sg, .string us, .string ps, .bool hp, .string tk] 27) = W6 at *
  generalize w6.heap.size = g6 at *
  have HT3 := Bx.mk (HRb.out W6 _ _ _ (HE.out.below HB6.out) HS6.out)
  go_wp2_with fail
  refine HT3.out.mono ?_
  rintro e w7 ⟨rfl, hb7⟩
  have HL7 := Bx.mk (HL6.out.below hb7 HL6.out.lt)
  have HK7 := Bx.mk (HK6.out.below hb7 HK6.out.lt)
  have HS7 := Bx.mk (sp_next HS6.out hb7)
  have HM7 := Bx.mk (sp_next HM6.out hb7)
  have HB7 := Bx.mk (HB6.out.trans (hb7.mono HB6.out.size))
  have HT4 := Bx.mk (HRa.out w7 _ _ _ (HE.out.below HB7.out) HM7.out)
  clear hb7 HT3 HS6 HM6 HL6 HK6 HB6
  go_wp2_with fail
  refine HT4.out.mono ?_
  rintro e w8 ⟨rfl, hb8⟩
  have HL8 := Bx.mk (HL7.out.below hb8 HL7.out.lt)
  have HK8 := Bx.mk (HK7.out.below hb8 HK7.out.lt)
  have HS8 := Bx.mk (sp_next HS7.out hb8)
  have HB8 := Bx.mk (HB7.out.trans (hb8.mono HB7.out.size))
  clear hb8 HT4 HS7 HM7 HL7 HK7 HB7
  obtain ⟨r0, r1, r2, r3, r4, r5, r6, r7⟩ := eight HL8.out
  obtain ⟨m0, m1, m2, m3, m4, m5, m6, m7⟩ := eight HK8.out
  have n1 : ((nc : Int) != (nc : Int)) = false := by simp
  have n2 : ((ec : Int) != (ec : Int)) = false := by simp
  have n3 : ((sc : Int) != (sc : Int)) = false := by simp
  have n4 : ((oc : Int) != (oc : Int)) = false := by simp
  have n5 : ((fc : Int) != (fc : Int)) = false := by simp
  go_wp2_with fail
  clear r0 r1 r2 r3 r4 r5 r6 r7 m0 m1 m2 m3 m4 m5 m6 m7 HEq n1 n2 n3 n4 n5
  go_loopw [18] (fun s18 wr => ∃ i : Nat, i ≤ nc ∧ s18 = .int .i64 (i : Int) ∧ Bx (Below w.heap.size w wr) ∧ Bx (Spell wr (fun g => g < wr.heap.size) A n c b)) (fun s18 _ => nc - (intOf s18).toNat)
  case atStart => exact ⟨0, Nat.zero_le _, rfl, HB8, HS8⟩
  case round =>
    clear HB8 HS8
    obtain ⟨i, hi, rfl, HR, HS8⟩ := hrel
    by_cases hlt : i < nc
    · have hlt' : (i : Int) < (nc : Int) := by omega
      have hltn : (i : Int) < (n : Int) := by omega
      have hcap := HS8.out.cap
      have hic : (i : Int) ≤ (c : Int) := by omega
      have HT := Bx.mk (HPt.out i hlt wr A i c (HE.out.below HR.out) (take_spell HS8.out (by omega)))
      clear hcap
      go_wp2_with fail
      refine HT.out.mono ?_
      rintro e w9 ⟨rfl, hb9⟩
      have hb9a := hb9.alloc hb9.size (.cells #[.int .u8 0, .string ⟨#[]⟩, .int .i64 0, .bool false, .string ⟨#[]⟩, .string ⟨#[]⟩, .bool false, .string ⟨#[]⟩] 27)
      have HR9 := Bx.mk (HR.out.trans (hb9a.mono HR.out.size))
      have HS9 := Bx.mk (sp_next HS8.out hb9a)
      clear hb9 hb9a HT HR HS8
      go_wp2_with fail
      go_roundw
      case rel => exact ⟨i + 1, by omega, by go_num, HR9, HS9⟩
      case measure => simp [intOf]; omega
    · obtain rfl : nc = i := by omega
      have hlt' : ¬ (nc : Int) < (nc : Int) := by omega
      clear hlt
      go_wp2_with fail
      exact bodyPost_ret (v := .bool true) (by simp [results, Tryz.results5, go_sem]) rfl ⟨rfl, HR.out⟩
theorem once_walk {w : World} (he : hw.Env w) {A B : Option Addr} {n c m d : Nat} {bs ds : List Int} (hs : Src w (fun g => g < w.heap.size) A n c bs) (hd : Src w (fun g => g < w.heap.size) B m d ds) : Calls Tryz.prog 5 #[.slice A n c, .slice B m d] w (True_ w) := by
  obtain ⟨b, rfl⟩ := ints_of hs.rng
  obtain ⟨k, rfl⟩ := ints_of hd.rng
  by_cases h : n ≤ 600 ∧ m ≤ 300
  · by_cases h5 : (take b).2.2.2 = 5
    · exact once_more he hs hd h.1 h.2 h5
    · exact once_done he hs hd h.1 h.2 h5
  · exact once_big he (by omega)
end Go.Proofs.YtghdaengkgiekaaGreatDoor.cn
