/-
  Given for the seat's laws: the document's own answers: the contracts of its Text, MayTarget and Print. No condition but those of the theorems.
-/
import Derived.Test.YtpllhnknejceiaaDoorHRText6
namespace Go.Proofs.YtpllhnknejceiaaDoor.hw
open Go.RowKit mem hostp
set_option linter.unusedVariables false

set_option maxRecDepth 100000 in
set_option maxHeartbeats 4000000 in
theorem rtext_any (k : Int) (t : ByteArray) (h0 : 0 ≤ k) (w : World) : Calls Tryd.prog 9 #[hv k t] w (Gives (.string (S (text (hh k t)))) w) := by
  have hm0 := rmay_any k t h0 (w.alloc (.cells #[.int .u8 k, .string t] 23))
  have hl0 := Lies.new w 23 #[.int .u8 k, .string t]
  have HB0 := Lib.hid ((Below.refl _ w).alloc (Nat.le_refl _) (.cells #[.int .u8 k, .string t] 23))
  by_cases hm : may (hh k t) = true
  · rcases may_kind h0 hm with ⟨rfl, h4⟩ | ⟨rfl, h16⟩ | ⟨rfl, hn⟩
    · rw [text1 hm]
      exact rtext_4 t h4 w
    · rw [text2 hm]
      exact rtext_6 t h16 w
    · rw [text3 hm, S_data]
      rw [hm] at hm0
      have HM := Lib.hid hm0
      have HL := Lib.hid hl0
      clear hm0 hl0 hm hn
      unfold hv at HM
      unfold hv
      go_enter Tryd.func9, Tryd.ntmps9
      go_wp2_with fail
      refine HM.out.mono ?_
      rintro e w' ⟨rfl, hb1⟩
      have hl := HL.out.below hb1 (by simp)
      have c0 := hl.cell 0
      have c1 := hl.cell 1
      simp at c0 c1
      have HB := Lib.hid (HB0.out.trans (hb1.mono (by simp)))
      clear hb1 hl
      go_wp2
      go_ret
      exact ⟨rfl, HB.out⟩
  · have hm' : may (hh k t) = false := by simpa using hm
    rw [text_no hm']
    rw [hm'] at hm0
    have HM := Lib.hid hm0
    clear hm0 hl0 hm hm'
    unfold hv at HM
    unfold hv
    go_enter Tryd.func9, Tryd.ntmps9
    go_wp2_with fail
    refine HM.out.mono ?_
    rintro e w' ⟨rfl, hb1⟩
    have HB := Lib.hid (HB0.out.trans (hb1.mono (by simp)))
    clear hb1
    go_wp2
    go_ret
    exact ⟨rfl, HB.out⟩

set_option maxHeartbeats 1000000 in
theorem rmayTarget_any (k : Int) (t : ByteArray) (p : Int) (h0 : 0 ≤ k) (w : World) : Calls Tryd.prog 7 #[tv k t p] w (Gives (.bool (mayT (tt k t p))) w) := by
  have hb : Below w.heap.size w (w.alloc (.cells #[.int .u8 k, .string t, .int .i64 p] 25)) := (Below.refl _ w).alloc (Nat.le_refl _) _
  have hl := Lies.new w 25 #[.int .u8 k, .string t, .int .i64 p]
  have HM := Lib.hid (rmay_any k t h0 (w.alloc (.cells #[.int .u8 k, .string t, .int .i64 p] 25)))
  have HE := Lib.hid (mayT_eq k t p)
  have HB := Lib.hid hb
  have HL := Lib.hid hl
  clear hb hl
  unfold hv at HM
  unfold tv
  generalize may (hh k t) = b at HM HE
  go_enter Tryd.func7, Tryd.ntmps7
  go_wp2_with fail
  refine HM.out.mono ?_
  rintro e w' ⟨rfl, hb2⟩
  have hl2 := HL.out.below hb2 (by simp)
  have c2 := hl2.cell 2
  simp at c2
  have HB2 := Lib.hid (HB.out.trans (hb2.mono (by simp)))
  clear hb2 hl2
  cases b
  · go_wp2
    go_ret
    exact ⟨by rw [HE.out]; rfl, HB2.out⟩
  · by_cases q1 : 1 ≤ p
    · by_cases q2 : p ≤ 65535
      · go_wp2
        go_ret
        exact ⟨by rw [HE.out, decide_eq_true q1, decide_eq_true q2]; rfl, HB2.out⟩
      · go_wp2
        go_ret
        exact ⟨by rw [HE.out, decide_eq_true q1, decide_eq_false (show ¬ p ≤ 65535 by omega)]; rfl, HB2.out⟩
    · go_wp2
      go_ret
      exact ⟨by rw [HE.out, decide_eq_false (show ¬ 1 ≤ p by omega)]; rfl, HB2.out⟩

set_option maxRecDepth 100000 in
set_option maxHeartbeats 8000000 in
theorem rprint_any (k : Int) (t : ByteArray) (p : Int) (h0 : 0 ≤ k) (w : World) : Calls Tryd.prog 11 #[tv k t p] w (Gives (.string (S (print (tt k t p)))) w) := by
  have hl0 := Lies.new w 25 #[.int .u8 k, .string t, .int .i64 p]
  have HM := Lib.hid (rmayTarget_any k t p h0 (w.alloc (.cells #[.int .u8 k, .string t, .int .i64 p] 25)))
  have HB0 := Lib.hid ((Below.refl _ w).alloc (Nat.le_refl _) (.cells #[.int .u8 k, .string t, .int .i64 p] 25))
  have HL0 := Lib.hid hl0
  clear hl0
  unfold tv at HM
  unfold tv
  by_cases hm : mayT (tt k t p) = true
  · obtain ⟨hm1, hp1, hp2⟩ := mayT_parts hm
    have hmk := may_kind h0 hm1
    have HMM := Lib.hid hm
    have htl := text_len hm1
    have hnl := nm_len (b := 10) (by omega) 4 p.toNat (by omega)
    rw [hm] at HM
    have ht := fun W => rtext_any k t h0 W
    have hn := fun W => number10_any p.toNat (by omega) W
    rw [show ((p.toNat : Nat) : Int) = p by omega] at hn
    unfold hv at ht
    have HT := Lib.hid ht
    have HN := Lib.hid hn
    clear hm hm1 ht hn
    go_enter Tryd.func11, Tryd.ntmps11
    go_wp2_with fail
    refine HM.out.mono ?_
    rintro e w1 ⟨rfl, hb1⟩
    have hl1 := HL0.out.below hb1 (by simp)
    have c0 := hl1.cell 0
    have c1 := hl1.cell 1
    have c2 := hl1.cell 2
    simp at c0 c1 c2
    have HB1 := Lib.hid (HB0.out.trans (hb1.mono (by simp)))
    have HC := Lib.hid (show ∀ W, Below w1.heap.size w1 W → W.cell? ⟨w.heap.size, 0, none⟩ = some (.int .u8 k) ∧ W.cell? ⟨w.heap.size, 1, none⟩ = some (.string t) ∧ W.cell? ⟨w.heap.size, 2, none⟩ = some (.int .i64 p) from fun W hW => ⟨cell_kept c0 hW, cell_kept c1 hW, cell_kept c2 hW⟩)
    clear hb1 hl1
    by_cases hk2 : k = 2
    · subst hk2
      have hpr := print2 HMM.out
      generalize text (hh 2 t) = x at *
      generalize nm 10 p.toNat = y at *
      have a0 : ∀ W, (Op.stringOp .add ⟨#[91]⟩ (S x)).run Tryd.prog W = .ok (.string (S ([91] ++ x))) W := fun W => add_str W [91] x (by simp) (by omega)
      have a1 : ∀ W, (Op.stringOp .add (S ([91] ++ x)) ⟨#[93, 58]⟩).run Tryd.prog W = .ok (.string (S ([91] ++ x ++ [93, 58]))) W := fun W => add_str W ([91] ++ x) [93, 58] (by rw [List.length_append, List.length_cons, List.length_nil]; omega) (by simp)
      have a2 : ∀ W, (Op.stringOp .add (S ([91] ++ x ++ [93, 58])) (S y)).run Tryd.prog W = .ok (.string (S (print (tt 2 t p)))) W := fun W => by
        rw [add_str W _ _ (by simp only [List.length_append, List.length_cons, List.length_nil]; omega) (by omega), hpr]
        congr 3
        simp
      generalize S x = sx at *
      generalize S y = sy at *
      generalize S ([91] ++ x) = s1 at *
      generalize S ([91] ++ x ++ [93, 58]) = s2 at *
      generalize S (print (tt 2 t p)) = sr at *
      clear hpr hnl htl hmk HMM
      go_upto_region 4 with fail
      have bb : Below w1.heap.size w1 w1.drew := (Below.refl _ w1).drew
      go_region_held3 (fun W' => W'.cell? ⟨w.heap.size, 0, none⟩ = some (.int .u8 2) ∧ W'.cell? ⟨w.heap.size, 1, none⟩ = some (.string t) ∧ W'.cell? ⟨w.heap.size, 2, none⟩ = some (.int .i64 p))
        (first | exact HC.out _ bb)
        (first
          | (go_at_call 9; refine (HT.out _).mono ?_; rintro e w2 ⟨rfl, hb2⟩; replace bb := bb.trans (hb2.mono bb.size); clear hb2)
          | (go_at_call 18; refine (HN.out _).mono ?_; rintro e w2 ⟨rfl, hb2⟩; replace bb := bb.trans (hb2.mono bb.size); clear hb2))
      all_goals
        have HB3 := Lib.hid (HB1.out.trans (bb.mono HB1.out.size))
        clear bb
        go_wp2
        go_ret
        exact ⟨rfl, HB3.out⟩
    · have hk13 : k = 1 ∨ k = 3 := by omega
      have hpr := print13 HMM.out hk13
      have hkn : (k == 2) = false := beq_eq_false_iff_ne.2 hk2
      generalize text (hh k t) = x at *
      generalize nm 10 p.toNat = y at *
      have a1 : ∀ W, (Op.stringOp .add (S x) ⟨#[58]⟩).run Tryd.prog W = .ok (.string (S (x ++ [58]))) W := fun W => add_str W x [58] (by omega) (by simp)
      have a2 : ∀ W, (Op.stringOp .add (S (x ++ [58])) (S y)).run Tryd.prog W = .ok (.string (S (print (tt k t p)))) W := fun W => by
        rw [add_str W _ _ (by simp only [List.length_append, List.length_cons, List.length_nil]; omega) (by omega), hpr]
        congr 3
        simp
      generalize S x = sx at *
      generalize S y = sy at *
      generalize S (x ++ [58]) = s2 at *
      generalize S (print (tt k t p)) = sr at *
      clear hpr hnl htl hmk HMM hk2 hk13
      go_upto_region 5 with fail
      have bb : Below w1.heap.size w1 w1.drew := (Below.refl _ w1).drew
      go_region_held3 (fun W' => W'.cell? ⟨w.heap.size, 0, none⟩ = some (.int .u8 k) ∧ W'.cell? ⟨w.heap.size, 1, none⟩ = some (.string t) ∧ W'.cell? ⟨w.heap.size, 2, none⟩ = some (.int .i64 p))
        (first | exact HC.out _ bb)
        (first
          | (go_at_call 9; refine (HT.out _).mono ?_; rintro e w2 ⟨rfl, hb2⟩; replace bb := bb.trans (hb2.mono bb.size); clear hb2)
          | (go_at_call 18; refine (HN.out _).mono ?_; rintro e w2 ⟨rfl, hb2⟩; replace bb := bb.trans (hb2.mono bb.size); clear hb2))
      all_goals
        have HB3 := Lib.hid (HB1.out.trans (bb.mono HB1.out.size))
        clear bb
        go_wp2
        go_ret
        exact ⟨rfl, HB3.out⟩
  · have hm' : mayT (tt k t p) = false := by simpa using hm
    rw [print_no hm']
    rw [hm'] at HM
    clear hm hm'
    go_enter Tryd.func11, Tryd.ntmps11
    go_wp2_with fail
    refine HM.out.mono ?_
    rintro e w1 ⟨rfl, hb1⟩
    have HB1 := Lib.hid (HB0.out.trans (hb1.mono (by simp)))
    clear hb1
    go_wp2
    go_ret
    exact ⟨rfl, HB1.out⟩

end Go.Proofs.YtpllhnknejceiaaDoor.hw
