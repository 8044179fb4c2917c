/-
  Given for the seat's laws: the contracts of Text and Print. No condition but that the library's tables lie as they are laid.
-/
import Derived.Test.YtpllhnknejceiaaGreatDoorHText
namespace Go.Proofs.YtpllhnknejceiaaGreatDoor.hw
open Go.RowKit mem hostp
set_option linter.unusedVariables false

theorem clone_any (s : ByteArray) (hs : s.size ≤ 281474976710656) (w : World) : Calls Tryz.prog 38 #[.string s] w (Gives (.string s) w) := by
  have H := Lib.hid (Tryz.stringslite_Clone s w hs)
  go_enter Tryz.func38, Tryz.ntmps38
  go_wp2_with (first | (go_at_call 57; refine H.out.mono ?_; rintro e w' ⟨rfl, hb⟩; have HB := Lib.hid hb; clear hb) | fail)
  go_ret
  exact ⟨rfl, HB.out⟩

theorem text_no {k : Int} {t : ByteArray} (h : may (hh k t) = false) : text (hh k t) = [] := by unfold text; rw [h]; rfl
theorem text1 {t : ByteArray} (h : may (hh 1 t) = true) : text (hh 1 t) = text4 t.data.toList := by unfold text; rw [if_pos h]; rfl
theorem text2 {t : ByteArray} (h : may (hh 2 t) = true) : text (hh 2 t) = text6 t.data.toList := by unfold text; rw [if_pos h]; rfl
theorem text3 {t : ByteArray} (h : may (hh 3 t) = true) : text (hh 3 t) = t.data.toList := by unfold text; rw [if_pos h]; rfl
theorem may_kind {k : Int} {t : ByteArray} (h0 : 0 ≤ k) (h : may (hh k t) = true) : k = 1 ∧ t.size = 4 ∨ k = 2 ∧ t.size = 16 ∨ k = 3 ∧ nameB t.data.toList = true := by
  rcases may_iff.1 h with ⟨h1, h2⟩ | ⟨h1, h2⟩ | ⟨h1, h2⟩
  · exact .inl ⟨by have : k.toNat = 1 := h1; omega, by rw [← list_len]; exact h2⟩
  · exact .inr (.inl ⟨by have : k.toNat = 2 := h1; omega, by rw [← list_len]; exact h2⟩)
  · exact .inr (.inr ⟨by have : k.toNat = 3 := h1; omega, h2⟩)
theorem name_len {s : Str} (h : nameB s = true) : s.length ≤ 40 := by
  unfold nameB at h
  simp only [Bool.and_eq_true, decide_eq_true_eq] at h
  exact h.1.1

set_option maxRecDepth 100000 in
set_option maxHeartbeats 4000000 in
theorem text_any (k : Int) (t : ByteArray) (h0 : 0 ≤ k) (w : World) (he : Env w) : Calls Tryz.prog 14 #[hv k t] w (Gives (.string (S (text (hh k t)))) w) := by
  obtain ⟨w0, hw0⟩ : ∃ w0, w0 = w.alloc (.cells #[.int .u8 k, .string t] 23) := ⟨_, rfl⟩
  have hb0 : Below w.heap.size w w0 := by rw [hw0]; exact (Below.refl _ w).alloc (Nat.le_refl _) _
  have hl0 : Lies w0 w.heap.size 23 #[.int .u8 k, .string t] := by rw [hw0]; exact Lies.new _ _ _
  have HM := Lib.hid (may_any k t h0 w0)
  have HB0 := Lib.hid hb0
  have HL0 := Lib.hid hl0
  have HE := Lib.hid (he.below hb0)
  clear hb0 hl0 he
  unfold hv at HM
  unfold hv
  by_cases hm : may (hh k t) = true
  · have HMK := Lib.hid (may_kind h0 hm)
    have HMM := Lib.hid hm
    rw [hm] at HM
    clear hm
    go_enter Tryz.func14, Tryz.ntmps14
    go_wp2_with fail
    rw [← hw0]
    refine HM.out.mono ?_
    rintro e w1 ⟨rfl, hb1⟩
    have hl1 := HL0.out.below hb1 HL0.out.lt
    have c0 := hl1.cell 0
    have c1 := hl1.cell 1
    simp at c0 c1
    have HE1 := Lib.hid (HE.out.below hb1)
    have HB1 := Lib.hid (HB0.out.trans (hb1.mono HB0.out.size))
    clear hb1 hl1 hw0
    rcases HMK.out with ⟨rfl, h4⟩ | ⟨rfl, h16⟩ | ⟨rfl, hn⟩
    · have HT := Lib.hid (textV4_any t h4 w1 HE1.out)
      have HF := Lib.hid (text1 HMM.out)
      go_wp2_with fail
      refine HT.out.mono ?_
      rintro e w2 ⟨rfl, hb2⟩
      have HB2 := Lib.hid (HB1.out.trans (hb2.mono HB1.out.size))
      clear hb2
      go_wp2
      go_ret
      exact ⟨by rw [HF.out]; rfl, HB2.out⟩
    · have HT := Lib.hid (groupsOf_any t h16 w1)
      have HF := Lib.hid (text2 HMM.out)
      have HG := Lib.hid (fun W (hW : Below w1.heap.size w1 W) => gtext_any (un2 t.data.toList) (un2_len 8 (by rw [list_len]; omega)) (un2_lt 8 (by rw [list_len]; omega)) W (HE1.out.below hW).d64)
      generalize gv (un2 t.data.toList) = g at HT HG
      go_wp2_with fail
      refine HT.out.mono ?_
      rintro e w2 ⟨rfl, hb2⟩
      have HG2 := Lib.hid (HG.out w2 hb2)
      have HB2 := Lib.hid (HB1.out.trans (hb2.mono HB1.out.size))
      clear hb2
      go_wp2_with fail
      refine HG2.out.mono ?_
      rintro e w3 ⟨rfl, hb3⟩
      have HB3 := Lib.hid (HB2.out.trans (hb3.mono HB2.out.size))
      clear hb3
      go_wp2
      go_ret
      exact ⟨by rw [HF.out]; rfl, HB3.out⟩
    · have HT := Lib.hid (clone_any t (by have := name_len hn; rw [list_len] at this; omega) w1)
      have HF := Lib.hid (text3 HMM.out)
      clear hn
      go_wp2_with fail
      refine HT.out.mono ?_
      rintro e w2 ⟨rfl, hb2⟩
      have HB2 := Lib.hid (HB1.out.trans (hb2.mono HB1.out.size))
      clear hb2
      go_wp2
      go_ret
      exact ⟨by rw [HF.out, S_data]; rfl, HB2.out⟩
  · have hm' : may (hh k t) = false := by simpa using hm
    have HF := Lib.hid (text_no hm')
    rw [hm'] at HM
    clear hm hm'
    go_enter Tryz.func14, Tryz.ntmps14
    go_wp2_with fail
    rw [← hw0]
    refine HM.out.mono ?_
    rintro e w1 ⟨rfl, hb1⟩
    have HB1 := Lib.hid (HB0.out.trans (hb1.mono HB0.out.size))
    clear hb1 hw0
    go_wp2
    go_ret
    exact ⟨by rw [HF.out]; rfl, HB1.out⟩

theorem text_len {h : H} (hm : may h = true) : (text h).length ≤ 100 := by
  obtain ⟨k, t⟩ := h
  rcases may_iff.1 hm with ⟨e, ht⟩ | ⟨e, ht⟩ | ⟨e, ht⟩
  · dsimp only at e ht
    subst e
    unfold text
    rw [if_pos hm, if_neg (by simp), if_pos rfl]
    have := join_len 46 3 (l := t.map fun c => nm 10 c.toNat) (fun x hx => by
      obtain ⟨c, _, rfl⟩ := List.mem_map.1 hx
      exact nm10_len c)
    rw [List.length_map] at this
    show (join 46 (t.map fun c => nm 10 c.toNat)).length ≤ 100
    omega
  · dsimp only at e ht
    subst e
    unfold text
    rw [if_pos hm, if_neg (by simp), if_neg (by simp)]
    show (text6 t).length ≤ 100
    unfold text6
    have hx : ∀ x ∈ (un2 t).map (nm 16), x.length ≤ 4 := fun x hx => by
      obtain ⟨v, hv, rfl⟩ := List.mem_map.1 hx
      exact nm_len (by omega) 3 v (by have := un2_lt 8 (by omega) v hv; omega)
    have h8 : ((un2 t).map (nm 16)).length = 8 := by rw [List.length_map]; exact un2_len 8 (by omega)
    generalize (un2 t).map (nm 16) = l at *
    generalize bst (un2 t) 8 = b
    unfold tx6
    split
    · have := join_len 58 4 hx
      omega
    · have h1 := join_len 58 4 (l := l.take b.1) (fun x hx' => hx x (List.mem_of_mem_take hx'))
      have h2 := join_len 58 4 (l := l.drop (b.1 + b.2)) (fun x hx' => hx x (List.mem_of_mem_drop hx'))
      rw [List.length_take] at h1
      rw [List.length_drop] at h2
      rw [List.length_append, List.length_cons, List.length_cons]
      omega
  · have := name_len ht
    dsimp only at e ht
    subst e
    unfold text
    rw [if_pos hm, if_pos rfl]
    dsimp only
    dsimp only at this
    omega

theorem print_no {k p : Int} {t : ByteArray} (h : mayT (tt k t p) = false) : print (tt k t p) = [] := by unfold print; rw [h]; rfl
theorem print2 {p : Int} {t : ByteArray} (h : mayT (tt 2 t p) = true) : print (tt 2 t p) = [91] ++ text (hh 2 t) ++ [93] ++ ([58] ++ nm 10 p.toNat) := by
  unfold print
  rw [if_pos h]
  show (if (2 : Int).toNat = 2 then _ else _) = _
  rw [if_pos (show Int.toNat 2 = 2 from rfl)]
  simp [tt]
theorem print13 {k p : Int} {t : ByteArray} (h : mayT (tt k t p) = true) (hk : k = 1 ∨ k = 3) : print (tt k t p) = text (hh k t) ++ ([58] ++ nm 10 p.toNat) := by
  unfold print
  rw [if_pos h]
  have : ¬ (tt k t p).host.kind = 2 := by
    show ¬ k.toNat = 2
    omega
  rw [if_neg this]
  rfl
theorem mayT_parts {k p : Int} {t : ByteArray} (h : mayT (tt k t p) = true) : may (hh k t) = true ∧ 1 ≤ p ∧ p ≤ 65535 := by
  rw [mayT_eq] at h
  simp only [Bool.and_eq_true, decide_eq_true_eq] at h
  exact ⟨h.1.1, h.1.2, h.2⟩

set_option maxRecDepth 100000 in
set_option maxHeartbeats 4000000 in
theorem print_any (k : Int) (t : ByteArray) (p : Int) (h0 : 0 ≤ k) (w : World) (he : Env w) : Calls Tryz.prog 16 #[tv k t p] w (Gives (.string (S (print (tt k t p)))) w) := by
  obtain ⟨w0, hw0⟩ : ∃ w0, w0 = w.alloc (.cells #[.int .u8 k, .string t, .int .i64 p] 30) := ⟨_, rfl⟩
  have hb0 : Below w.heap.size w w0 := by rw [hw0]; exact (Below.refl _ w).alloc (Nat.le_refl _) _
  have hl0 : Lies w0 w.heap.size 30 #[.int .u8 k, .string t, .int .i64 p] := by rw [hw0]; exact Lies.new _ _ _
  have HM := Lib.hid (mayTarget_any k t p h0 w0)
  have HB0 := Lib.hid hb0
  have HL0 := Lib.hid hl0
  have HE := Lib.hid (he.below hb0)
  clear hb0 hl0 he
  unfold tv at HM
  unfold tv
  by_cases hm : mayT (tt k t p) = true
  · obtain ⟨hm1, hp1, hp2⟩ := mayT_parts hm
    have HMK := Lib.hid (may_kind h0 hm1)
    have HMM := Lib.hid hm
    have HTL := Lib.hid (text_len hm1)
    rw [hm] at HM
    clear hm hm1
    go_enter Tryz.func16, Tryz.ntmps16
    go_wp2_with fail
    rw [← hw0]
    refine HM.out.mono ?_
    rintro e w1 ⟨rfl, hb1⟩
    have hl1 := HL0.out.below hb1 HL0.out.lt
    have c0 := hl1.cell 0
    have c1 := hl1.cell 1
    have c2 := hl1.cell 2
    simp at c0 c1 c2
    have HL1 := Lib.hid hl1
    have HE1 := Lib.hid (HE.out.below hb1)
    have HB1 := Lib.hid (HB0.out.trans (hb1.mono HB0.out.size))
    have HT := Lib.hid (text_any k t h0 w1 HE1.out)
    unfold hv at HT
    clear hb1 hl1 hw0
    go_wp2_with fail
    refine HT.out.mono ?_
    rintro e w2 ⟨rfl, hb2⟩
    have hl2 := HL1.out.below hb2 HL1.out.lt
    have d0 := hl2.cell 0
    have d2 := hl2.cell 2
    simp at d0 d2
    have HE2 := Lib.hid (HE1.out.below hb2)
    have HB2 := Lib.hid (HB1.out.trans (hb2.mono HB1.out.size))
    have HI := Lib.hid (itoa_any p (by omega) (by omega) w2 HE2.out)
    have hnl := nm_len (b := 10) (by omega) 4 p.toNat (by omega)
    have htl := HTL.out
    clear hb2 hl2 c0 c1 c2
    rcases HMK.out with ⟨rfl, _⟩ | ⟨rfl, _⟩ | ⟨rfl, _⟩
    · have hpr := print13 HMM.out (.inl rfl)
      generalize text (hh 1 t) = x at *
      generalize nm 10 p.toNat = y at *
      have a1 : ∀ W, (Op.stringOp .add ⟨#[58]⟩ (S y)).run Tryz.prog W = .ok (.string (S ([58] ++ y))) W := fun W => add_str W [58] y (by simp) (by omega)
      have a2 : ∀ W, (Op.stringOp .add (S x) (S ([58] ++ y))).run Tryz.prog W = .ok (.string (S (x ++ ([58] ++ y)))) W := fun W => add_str W x _ (by omega) (by rw [List.length_append, List.length_cons, List.length_nil]; omega)
      rw [← hpr] at a2
      have HP := Lib.hid hpr
      generalize S x = sx at *
      generalize S y = sy at *
      generalize S ([58] ++ y) = sz at *
      generalize hsr : S (print (tt 1 t p)) = sr at *
      have HSR := Lib.hid hsr
      clear hpr hnl htl hsr
      go_wp2_with fail
      refine HI.out.mono ?_
      rintro e w3 ⟨rfl, hb3⟩
      have HB3 := Lib.hid (HB2.out.trans (hb3.mono HB2.out.size))
      clear hb3
      go_wp2
      go_ret
      exact ⟨rfl, HB3.out⟩
    · have hpr := print2 HMM.out
      generalize text (hh 2 t) = x at *
      generalize nm 10 p.toNat = y at *
      have a0 : ∀ W, (Op.stringOp .add ⟨#[91]⟩ (S x)).run Tryz.prog W = .ok (.string (S ([91] ++ x))) W := fun W => add_str W [91] x (by simp) (by omega)
      have a00 : ∀ W, (Op.stringOp .add (S ([91] ++ x)) ⟨#[93]⟩).run Tryz.prog W = .ok (.string (S ([91] ++ x ++ [93]))) W := fun W => add_str W ([91] ++ x) [93] (by rw [List.length_append, List.length_cons, List.length_nil]; omega) (by simp)
      have a1 : ∀ W, (Op.stringOp .add ⟨#[58]⟩ (S y)).run Tryz.prog W = .ok (.string (S ([58] ++ y))) W := fun W => add_str W [58] y (by simp) (by omega)
      have a2 : ∀ W, (Op.stringOp .add (S ([91] ++ x ++ [93])) (S ([58] ++ y))).run Tryz.prog W = .ok (.string (S ([91] ++ x ++ [93] ++ ([58] ++ y)))) W := fun W => add_str W _ _ (by simp only [List.length_append, List.length_cons, List.length_nil]; omega) (by rw [List.length_append, List.length_cons, List.length_nil]; omega)
      rw [← hpr] at a2
      have HP := Lib.hid hpr
      generalize S x = sx at *
      generalize S y = sy at *
      generalize S ([58] ++ y) = sz at *
      generalize S ([91] ++ x) = s1 at *
      generalize S ([91] ++ x ++ [93]) = s2 at *
      generalize hsr : S (print (tt 2 t p)) = sr at *
      have HSR := Lib.hid hsr
      clear hpr hnl htl hsr
      go_wp2_with fail
      refine HI.out.mono ?_
      rintro e w3 ⟨rfl, hb3⟩
      have HB3 := Lib.hid (HB2.out.trans (hb3.mono HB2.out.size))
      clear hb3
      go_wp2
      go_ret
      exact ⟨rfl, HB3.out⟩
    · have hpr := print13 HMM.out (.inr rfl)
      generalize text (hh 3 t) = x at *
      generalize nm 10 p.toNat = y at *
      have a1 : ∀ W, (Op.stringOp .add ⟨#[58]⟩ (S y)).run Tryz.prog W = .ok (.string (S ([58] ++ y))) W := fun W => add_str W [58] y (by simp) (by omega)
      have a2 : ∀ W, (Op.stringOp .add (S x) (S ([58] ++ y))).run Tryz.prog W = .ok (.string (S (x ++ ([58] ++ y)))) W := fun W => add_str W x _ (by omega) (by rw [List.length_append, List.length_cons, List.length_nil]; omega)
      rw [← hpr] at a2
      have HP := Lib.hid hpr
      generalize S x = sx at *
      generalize S y = sy at *
      generalize S ([58] ++ y) = sz at *
      generalize hsr : S (print (tt 3 t p)) = sr at *
      have HSR := Lib.hid hsr
      clear hpr hnl htl hsr
      go_wp2_with fail
      refine HI.out.mono ?_
      rintro e w3 ⟨rfl, hb3⟩
      have HB3 := Lib.hid (HB2.out.trans (hb3.mono HB2.out.size))
      clear hb3
      go_wp2
      go_ret
      exact ⟨rfl, HB3.out⟩
  · have hm' : mayT (tt k t p) = false := by simpa using hm
    have HF := Lib.hid (print_no hm')
    rw [hm'] at HM
    clear hm hm'
    go_enter Tryz.func16, Tryz.ntmps16
    go_wp2_with fail
    rw [← hw0]
    refine HM.out.mono ?_
    rintro e w1 ⟨rfl, hb1⟩
    have HB1 := Lib.hid (HB0.out.trans (hb1.mono HB0.out.size))
    clear hb1 hw0
    go_wp2
    go_ret
    exact ⟨by rw [HF.out]; rfl, HB1.out⟩

end Go.Proofs.YtpllhnknejceiaaGreatDoor.hw
