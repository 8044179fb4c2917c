/-
  Given for the seat's laws: the contracts of text (of groups), Text and Print. No condition but that the library's tables lie as they are laid.
-/
import Derived.Test.YtghdaengkgiekaaGreatDoorYHFmt
import Derived.Deep.RegionHeld3
namespace Go.Proofs.YtghdaengkgiekaaGreatDoor.hw
open Go.RowKit mem hostp
set_option linter.unusedVariables false

theorem add_str (W : World) (a b : Str) (ha : a.length ≤ 100000) (hb : b.length ≤ 100000) : (Op.stringOp .add (S a) (S b)).run Tryz.prog W = .ok (.string (S (a ++ b))) W := by
  rw [run_string_add W _ _ (by rw [S_size]; omega) (by rw [S_size]; omega), S_append]

theorem bst_le {g : List Nat} (h8 : g.length = 8) : (bst g 8).1 + (bst g 8).2 ≤ 8 := by
  rcases bst_ok h8 8 (Nat.le_refl _) with h | h
  · obtain ⟨h1, h2⟩ := gs_bst h8
    have h3 := gs_ok (isz g) 8
    omega
  · exact h.1

set_option maxRecDepth 100000 in
set_option maxHeartbeats 8000000 in
theorem gtext_any (g : List Nat) (h8 : g.length = 8) (hg : ∀ v ∈ g, v < 65536) (w : World) (he : D64 w) : Calls Tryz.prog 81 #[gv g] w (Gives (.string (S (tx6 (g.map (nm 16)) (bst g 8).1 (bst g 8).2))) w) := by
  obtain ⟨w0, hw0⟩ : ∃ w0, w0 = w.alloc (.cells (gc g) 122) := ⟨_, rfl⟩
  have hb0 : Below w.heap.size w w0 := by rw [hw0]; exact (Below.refl _ w).alloc (Nat.le_refl _) _
  have hl0 : Lies w0 w.heap.size 122 (gc g) := by rw [hw0]; exact Lies.new _ _ _
  have hgap := gap_any g h8 w0
  have hle := bst_le h8
  have hjl : ∀ l : List Nat, (∀ v ∈ l, v ∈ g) → l.length ≤ 8 → (join 58 (l.map (nm 16))).length ≤ 1000 := fun l hl hl8 => by
    have := join_len 58 4 (l := l.map (nm 16)) (fun x hx => by
      obtain ⟨v, hv, rfl⟩ := List.mem_map.1 hx
      exact nm_len (by omega) 3 v (by have := hg v (hl v hv); omega))
    rw [List.length_map] at this
    omega
  generalize bst g 8 = b at *
  obtain ⟨k, m⟩ := b
  dsimp only at hgap hle ⊢
  obtain ⟨t, ht⟩ : ∃ t, t = k + m := ⟨_, rfl⟩
  rw [← ht] at hgap hle
  have hc0 : ∀ W, Below w0.heap.size w0 W → D64 W ∧ Lies W w.heap.size 122 (gc g) := fun W hW => ⟨cell_kept (cell_kept he hb0) hW, hl0.below hW hl0.lt⟩
  obtain ⟨a, b', c, d, e, f, i, j, hgc, c0, c1, c2, c3, c4, c5, c6, c7⟩ := gc_cells hl0 h8
  have hcells : ∀ W, Below w0.heap.size w0 W → W.cell? ⟨w.heap.size, 0, none⟩ = some (.int .u16 a) ∧ W.cell? ⟨w.heap.size, 1, none⟩ = some (.int .u16 b') ∧ W.cell? ⟨w.heap.size, 2, none⟩ = some (.int .u16 c) ∧ W.cell? ⟨w.heap.size, 3, none⟩ = some (.int .u16 d) ∧
      W.cell? ⟨w.heap.size, 4, none⟩ = some (.int .u16 e) ∧ W.cell? ⟨w.heap.size, 5, none⟩ = some (.int .u16 f) ∧ W.cell? ⟨w.heap.size, 6, none⟩ = some (.int .u16 i) ∧ W.cell? ⟨w.heap.size, 7, none⟩ = some (.int .u16 j) := fun W hW =>
    ⟨cell_kept c0 hW, cell_kept c1 hW, cell_kept c2 hW, cell_kept c3 hW, cell_kept c4 hW, cell_kept c5 hW, cell_kept c6 hW, cell_kept c7 hW⟩
  have HGAP := Lib.hid hgap
  have HCELLS := Lib.hid hcells
  have HB0 := Lib.hid hb0
  have hgv : gv g = .agg #[.int .u16 a, .int .u16 b', .int .u16 c, .int .u16 d, .int .u16 e, .int .u16 f, .int .u16 i, .int .u16 j] := by unfold gv; rw [hgc]
  have hwds : ∀ f t : Nat, f ≤ t → t ≤ 8 → ∀ W, Below w0.heap.size w0 W → Calls Tryz.prog 99 #[gv g, .int .i64 (f : Int), .int .i64 (t : Int)] W (Gives (.string (S (join 58 (((g.drop f).take (t - f)).map (nm 16))))) W) := fun f t h1 h2 W hW => words_any g h8 hg f t h1 h2 W (hc0 W hW).1
  rw [hgc] at hw0
  rw [hgv] at hwds ⊢ HGAP
  by_cases hm : m = 0
  · subst hm
    obtain rfl : t = k := by omega
    have h := hwds 0 8 (by omega) (by omega)
    rw [List.drop_zero, Nat.sub_zero, List.take_of_length_le (by omega)] at h
    have HW := Lib.hid h
    have HF := Lib.hid (show tx6 (g.map (nm 16)) t 0 = join 58 (g.map (nm 16)) by unfold tx6; rw [if_pos rfl])
    clear h hwds hgap hcells hjl hc0 hgc hgv c0 c1 c2 c3 c4 c5 c6 c7 hb0 hl0 he ht
    go_enter Tryz.func81, Tryz.ntmps81
    go_upto_block 2 with fail
    rw [← hw0]
    refine HGAP.out.mono ?_
    rintro e w1 ⟨rfl, hb1⟩
    have hc1 := HCELLS.out w1 hb1
    obtain ⟨c0, c1, c2, c3, c4, c5, c6, c7⟩ := hc1
    have HB1 := Lib.hid hb1
    clear hb1
    go_wp2_with fail
    refine (HW.out w1 HB1.out).mono ?_
    rintro e w2 ⟨rfl, hb2⟩
    have HB2 := Lib.hid (HB0.out.trans ((HB1.out.mono HB0.out.size).trans (hb2.mono (Nat.le_trans HB0.out.size HB1.out.size))))
    clear hb2
    go_wp2
    go_ret
    exact ⟨by rw [HF.out]; rfl, HB2.out⟩
  · have hkt : k < t := by omega
    have h1 := hwds 0 k (by omega) (by omega)
    rw [List.drop_zero, Nat.sub_zero] at h1
    have h2 := hwds t 8 (by omega) (by omega)
    rw [List.take_of_length_le (l := g.drop t) (by simp; omega)] at h2
    have l1 := hjl (g.take k) (fun v hv => List.mem_of_mem_take hv) (by simp; omega)
    have l2 := hjl (g.drop t) (fun v hv => List.mem_of_mem_drop hv) (by simp; omega)
    have hf : join 58 ((g.take k).map (nm 16)) ++ ([58, 58] ++ join 58 ((g.drop t).map (nm 16))) = tx6 (g.map (nm 16)) k m := by
      unfold tx6
      rw [if_neg hm, List.map_take, List.map_drop, ht]
      rfl
    rw [← hf]
    generalize join 58 ((g.take k).map (nm 16)) = x at *
    generalize join 58 ((g.drop t).map (nm 16)) = y at *
    have a1 : ∀ W, (Op.stringOp .add (S x) ⟨#[58, 58]⟩).run Tryz.prog W = .ok (.string (S (x ++ [58, 58]))) W := fun W => add_str W x [58, 58] (by omega) (by simp)
    have a2 : ∀ W, (Op.stringOp .add (S (x ++ [58, 58])) (S y)).run Tryz.prog W = .ok (.string (S (x ++ ([58, 58] ++ y)))) W := fun W => by rw [add_str W _ _ (by rw [List.length_append, List.length_cons, List.length_cons, List.length_nil]; omega) (by omega), List.append_assoc]
    generalize S x = sx at *
    generalize S y = sy at *
    obtain ⟨R, r1, r2⟩ : ∃ R : Int → Int → ByteArray, R 0 (k : Int) = sx ∧ R (t : Int) 8 = sy := ⟨fun F T => if F = 0 then sx else sy, if_pos rfl, if_neg (by omega)⟩
    have hw : ∀ (F T : Int) (W : World), Below w0.heap.size w0 W → ((F = 0 ∧ T = (k : Int)) ∨ (F = (t : Int) ∧ T = 8)) → Calls Tryz.prog 99 #[.agg #[.int .u16 a, .int .u16 b', .int .u16 c, .int .u16 d, .int .u16 e, .int .u16 f, .int .u16 i, .int .u16 j], .int .i64 F, .int .i64 T] W (Gives (.string (R F T)) W) := by
      rintro F T W hW (⟨rfl, rfl⟩ | ⟨rfl, rfl⟩)
      · rw [r1]; exact h1 W hW
      · rw [r2]; exact h2 W hW
    have HW := Lib.hid hw
    generalize S (x ++ [58, 58]) = sz at *
    generalize S (x ++ ([58, 58] ++ y)) = sr at *
    clear hw h1 h2 l1 l2 hf hwds hgap hcells hjl hc0 hgc hgv c0 c1 c2 c3 c4 c5 c6 c7 hb0 hl0 he ht hm hg h8
    go_enter Tryz.func81, Tryz.ntmps81
    go_upto_block 2 with fail
    rw [← hw0]
    refine HGAP.out.mono ?_
    rintro e w1 ⟨rfl, hb1⟩
    have hne : ((k : Int) == (t : Int)) = false := beq_eq_false_iff_ne.2 (by omega)
    have HB1 := Lib.hid hb1
    obtain ⟨c0, c1, c2, c3, c4, c5, c6, c7⟩ := HCELLS.out w1 hb1
    clear hb1 hw0
    go_upto_region 4 with fail
    have hz1 := HB1.out.size
    have b1 : Below w0.heap.size w0 w1.drew := HB1.out.drew
    go_region_held3 (fun W' => W'.cell? ⟨w.heap.size, 0, none⟩ = some (.int .u16 a) ∧ W'.cell? ⟨w.heap.size, 1, none⟩ = some (.int .u16 b') ∧ W'.cell? ⟨w.heap.size, 2, none⟩ = some (.int .u16 c) ∧ W'.cell? ⟨w.heap.size, 3, none⟩ = some (.int .u16 d) ∧
      W'.cell? ⟨w.heap.size, 4, none⟩ = some (.int .u16 e) ∧ W'.cell? ⟨w.heap.size, 5, none⟩ = some (.int .u16 f) ∧ W'.cell? ⟨w.heap.size, 6, none⟩ = some (.int .u16 i) ∧ W'.cell? ⟨w.heap.size, 7, none⟩ = some (.int .u16 j))
      (first | exact HCELLS.out _ b3 | exact HCELLS.out _ b2 | exact HCELLS.out _ b1)
      (first
        | (go_at_call 99; refine (HW.out _ _ _ b2 (by first | exact .inl ⟨rfl, rfl⟩ | exact .inr ⟨rfl, rfl⟩)).mono ?_; rintro e w3 ⟨rfl, hb3⟩; have b3 := b2.trans (hb3.mono b2.size); clear hb3)
        | (go_at_call 99; refine (HW.out _ _ _ b1 (by first | exact .inl ⟨rfl, rfl⟩ | exact .inr ⟨rfl, rfl⟩)).mono ?_; rintro e w2 ⟨rfl, hb2⟩; have b2 := b1.trans (hb2.mono b1.size); clear hb2))
    all_goals
      have HB3 := Lib.hid (HB0.out.trans (b3.mono HB0.out.size))
      clear b1 b2 b3
      go_wp2
      go_ret
      exact ⟨rfl, HB3.out⟩

end Go.Proofs.YtghdaengkgiekaaGreatDoor.hw

/-
  Given for the seat's laws: the contracts of Text and Print. No condition but that the library's tables lie as they are laid.
-/
namespace Go.Proofs.YtghdaengkgiekaaGreatDoor.hw
open Go.RowKit mem hostp
set_option linter.unusedVariables false

theorem clone_any (s : ByteArray) (hs : s.size ≤ 281474976710656) (w : World) : Calls Tryz.prog 82 #[.string s] w (Gives (.string s) w) := by
  have H := Lib.hid (Tryz.stringslite_Clone s w hs)
  go_enter Tryz.func82, Tryz.ntmps82
  go_wp2_with (first | (go_at_call 100; refine H.out.mono ?_; rintro e w' ⟨rfl, hb⟩; have HB := Lib.hid hb; clear hb) | fail)
  go_ret
  exact ⟨rfl, HB.out⟩

theorem text_no {k : Int} {t : ByteArray} (h : may (hh k t) = false) : text (hh k t) = [] := by unfold text; rw [h]; rfl
theorem text1 {t : ByteArray} (h : may (hh 1 t) = true) : text (hh 1 t) = text4 t.data.toList := by unfold text; rw [if_pos h]; rfl
theorem text2 {t : ByteArray} (h : may (hh 2 t) = true) : text (hh 2 t) = text6 t.data.toList := by unfold text; rw [if_pos h]; rfl
theorem text3 {t : ByteArray} (h : may (hh 3 t) = true) : text (hh 3 t) = t.data.toList := by unfold text; rw [if_pos h]; rfl
theorem may_kind {k : Int} {t : ByteArray} (h0 : 0 ≤ k) (h : may (hh k t) = true) : k = 1 ∧ t.size = 4 ∨ k = 2 ∧ t.size = 16 ∨ k = 3 ∧ nameB t.data.toList = true := by
  rcases may_iff.1 h with ⟨h1, h2⟩ | ⟨h1, h2⟩ | ⟨h1, h2⟩
  · exact .inl ⟨by have : k.toNat = 1 := h1; omega, by rw [← list_len]; exact h2⟩
  · exact .inr (.inl ⟨by have : k.toNat = 2 := h1; omega, by rw [← list_len]; exact h2⟩)
  · exact .inr (.inr ⟨by have : k.toNat = 3 := h1; omega, h2⟩)
theorem name_len {s : Str} (h : nameB s = true) : s.length ≤ 40 := by
  unfold nameB at h
  simp only [Bool.and_eq_true, decide_eq_true_eq] at h
  exact h.1.1

set_option maxRecDepth 100000 in
set_option maxHeartbeats 4000000 in
theorem text_any (k : Int) (t : ByteArray) (h0 : 0 ≤ k) (w : World) (he : Env w) : Calls Tryz.prog 55 #[hv k t] w (Gives (.string (S (text (hh k t)))) w) := by
  obtain ⟨w0, hw0⟩ : ∃ w0, w0 = w.alloc (.cells #[.int .u8 k, .string t] 23) := ⟨_, rfl⟩
  have hb0 : Below w.heap.size w w0 := by rw [hw0]; exact (Below.refl _ w).alloc (Nat.le_refl _) _
  have hl0 : Lies w0 w.heap.size 23 #[.int .u8 k, .string t] := by rw [hw0]; exact Lies.new _ _ _
  have HM := Lib.hid (may_any k t h0 w0)
  have HB0 := Lib.hid hb0
  have HL0 := Lib.hid hl0
  have HE := Lib.hid (he.below hb0)
  clear hb0 hl0 he
  unfold hv at HM
  unfold hv
  by_cases hm : may (hh k t) = true
  · have HMK := Lib.hid (may_kind h0 hm)
    have HMM := Lib.hid hm
    rw [hm] at HM
    clear hm
    go_enter Tryz.func55, Tryz.ntmps55
    go_wp2_with fail
    rw [← hw0]
    refine HM.out.mono ?_
    rintro e w1 ⟨rfl, hb1⟩
    have hl1 := HL0.out.below hb1 HL0.out.lt
    have c0 := hl1.cell 0
    have c1 := hl1.cell 1
    simp at c0 c1
    have HE1 := Lib.hid (HE.out.below hb1)
    have HB1 := Lib.hid (HB0.out.trans (hb1.mono HB0.out.size))
    clear hb1 hl1 hw0
    rcases HMK.out with ⟨rfl, h4⟩ | ⟨rfl, h16⟩ | ⟨rfl, hn⟩
    · have HT := Lib.hid (textV4_any t h4 w1 HE1.out)
      have HF := Lib.hid (text1 HMM.out)
      go_wp2_with fail
      refine HT.out.mono ?_
      rintro e w2 ⟨rfl, hb2⟩
      have HB2 := Lib.hid (HB1.out.trans (hb2.mono HB1.out.size))
      clear hb2
      go_wp2
      go_ret
      exact ⟨by rw [HF.out]; rfl, HB2.out⟩
    · have HT := Lib.hid (groupsOf_any t h16 w1)
      have HF := Lib.hid (text2 HMM.out)
      have HG := Lib.hid (fun W (hW : Below w1.heap.size w1 W) => gtext_any (un2 t.data.toList) (un2_len 8 (by rw [list_len]; omega)) (un2_lt 8 (by rw [list_len]; omega)) W (HE1.out.below hW).d64)
      generalize gv (un2 t.data.toList) = g at HT HG
      go_wp2_with fail
      refine HT.out.mono ?_
      rintro e w2 ⟨rfl, hb2⟩
      have HG2 := Lib.hid (HG.out w2 hb2)
      have HB2 := Lib.hid (HB1.out.trans (hb2.mono HB1.out.size))
      clear hb2
      go_wp2_with fail
      refine HG2.out.mono ?_
      rintro e w3 ⟨rfl, hb3⟩
      have HB3 := Lib.hid (HB2.out.trans (hb3.mono HB2.out.size))
      clear hb3
      go_wp2
      go_ret
      exact ⟨by rw [HF.out]; rfl, HB3.out⟩
    · have HT := Lib.hid (clone_any t (by have := name_len hn; rw [list_len] at this; omega) w1)
      have HF := Lib.hid (text3 HMM.out)
      clear hn
      go_wp2_with fail
      refine HT.out.mono ?_
      rintro e w2 ⟨rfl, hb2⟩
      have HB2 := Lib.hid (HB1.out.trans (hb2.mono HB1.out.size))
      clear hb2
      go_wp2
      go_ret
      exact ⟨by rw [HF.out, S_data]; rfl, HB2.out⟩
  · have hm' : may (hh k t) = false := by simpa using hm
    have HF := Lib.hid (text_no hm')
    rw [hm'] at HM
    clear hm hm'
    go_enter Tryz.func55, Tryz.ntmps55
    go_wp2_with fail
    rw [← hw0]
    refine HM.out.mono ?_
    rintro e w1 ⟨rfl, hb1⟩
    have HB1 := Lib.hid (HB0.out.trans (hb1.mono HB0.out.size))
    clear hb1 hw0
    go_wp2
    go_ret
    exact ⟨by rw [HF.out]; rfl, HB1.out⟩

theorem text_len {h : H} (hm : may h = true) : (text h).length ≤ 100 := by
  obtain ⟨k, t⟩ := h
  rcases may_iff.1 hm with ⟨e, ht⟩ | ⟨e, ht⟩ | ⟨e, ht⟩
  · dsimp only at e ht
    subst e
    unfold text
    rw [if_pos hm, if_neg (by simp), if_pos rfl]
    have := join_len 46 3 (l := t.map fun c => nm 10 c.toNat) (fun x hx => by
      obtain ⟨c, _, rfl⟩ := List.mem_map.1 hx
      exact nm10_len c)
    rw [List.length_map] at this
    show (join 46 (t.map fun c => nm 10 c.toNat)).length ≤ 100
    omega
  · dsimp only at e ht
    subst e
    unfold text
    rw [if_pos hm, if_neg (by simp), if_neg (by simp)]
    show (text6 t).length ≤ 100
    unfold text6
    have hx : ∀ x ∈ (un2 t).map (nm 16), x.length ≤ 4 := fun x hx => by
      obtain ⟨v, hv, rfl⟩ := List.mem_map.1 hx
      exact nm_len (by omega) 3 v (by have := un2_lt 8 (by omega) v hv; omega)
    have h8 : ((un2 t).map (nm 16)).length = 8 := by rw [List.length_map]; exact un2_len 8 (by omega)
    generalize (un2 t).map (nm 16) = l at *
    generalize bst (un2 t) 8 = b
    unfold tx6
    split
    · have := join_len 58 4 hx
      omega
    · have h1 := join_len 58 4 (l := l.take b.1) (fun x hx' => hx x (List.mem_of_mem_take hx'))
      have h2 := join_len 58 4 (l := l.drop (b.1 + b.2)) (fun x hx' => hx x (List.mem_of_mem_drop hx'))
      rw [List.length_take] at h1
      rw [List.length_drop] at h2
      rw [List.length_append, List.length_cons, List.length_cons]
      omega
  · have := name_len ht
    dsimp only at e ht
    subst e
    unfold text
    rw [if_pos hm, if_pos rfl]
    dsimp only
    dsimp only at this
    omega

theorem print_no {k p : Int} {t : ByteArray} (h : mayT (tt k t p) = false) : print (tt k t p) = [] := by unfold print; rw [h]; rfl
theorem print2 {p : Int} {t : ByteArray} (h : mayT (tt 2 t p) = true) : print (tt 2 t p) = [91] ++ text (hh 2 t) ++ [93] ++ ([58] ++ nm 10 p.toNat) := by
  unfold print
  rw [if_pos h]
  show (if (2 : Int).toNat = 2 then _ else _) = _
  rw [if_pos (show Int.toNat 2 = 2 from rfl)]
  simp [tt]
theorem print13 {k p : Int} {t : ByteArray} (h : mayT (tt k t p) = true) (hk : k = 1 ∨ k = 3) : print (tt k t p) = text (hh k t) ++ ([58] ++ nm 10 p.toNat) := by
  unfold print
  rw [if_pos h]
  have : ¬ (tt k t p).host.kind = 2 := by
    show ¬ k.toNat = 2
    omega
  rw [if_neg this]
  rfl
theorem mayT_parts {k p : Int} {t : ByteArray} (h : mayT (tt k t p) = true) : may (hh k t) = true ∧ 1 ≤ p ∧ p ≤ 65535 := by
  rw [mayT_eq] at h
  simp only [Bool.and_eq_true, decide_eq_true_eq] at h
  exact ⟨h.1.1, h.1.2, h.2⟩

set_option maxRecDepth 100000 in
set_option maxHeartbeats 4000000 in
theorem print_any (k : Int) (t : ByteArray) (p : Int) (h0 : 0 ≤ k) (w : World) (he : Env w) : Calls Tryz.prog 30 #[tv k t p] w (Gives (.string (S (print (tt k t p)))) w) := by
  obtain ⟨w0, hw0⟩ : ∃ w0, w0 = w.alloc (.cells #[.int .u8 k, .string t, .int .i64 p] 25) := ⟨_, rfl⟩
  have hb0 : Below w.heap.size w w0 := by rw [hw0]; exact (Below.refl _ w).alloc (Nat.le_refl _) _
  have hl0 : Lies w0 w.heap.size 25 #[.int .u8 k, .string t, .int .i64 p] := by rw [hw0]; exact Lies.new _ _ _
  have HM := Lib.hid (mayTarget_any k t p h0 w0)
  have HB0 := Lib.hid hb0
  have HL0 := Lib.hid hl0
  have HE := Lib.hid (he.below hb0)
  clear hb0 hl0 he
  unfold tv at HM
  unfold tv
  by_cases hm : mayT (tt k t p) = true
  · obtain ⟨hm1, hp1, hp2⟩ := mayT_parts hm
    have HMK := Lib.hid (may_kind h0 hm1)
    have HMM := Lib.hid hm
    have HTL := Lib.hid (text_len hm1)
    rw [hm] at HM
    clear hm hm1
    go_enter Tryz.func30, Tryz.ntmps30
    go_wp2_with fail
    rw [← hw0]
    refine HM.out.mono ?_
    rintro e w1 ⟨rfl, hb1⟩
    have hl1 := HL0.out.below hb1 HL0.out.lt
    have c0 := hl1.cell 0
    have c1 := hl1.cell 1
    have c2 := hl1.cell 2
    simp at c0 c1 c2
    have HL1 := Lib.hid hl1
    have HE1 := Lib.hid (HE.out.below hb1)
    have HB1 := Lib.hid (HB0.out.trans (hb1.mono HB0.out.size))
    have HT := Lib.hid (text_any k t h0 w1 HE1.out)
    unfold hv at HT
    clear hb1 hl1 hw0
    go_wp2_with fail
    refine HT.out.mono ?_
    rintro e w2 ⟨rfl, hb2⟩
    have hl2 := HL1.out.below hb2 HL1.out.lt
    have d0 := hl2.cell 0
    have d2 := hl2.cell 2
    simp at d0 d2
    have HE2 := Lib.hid (HE1.out.below hb2)
    have HB2 := Lib.hid (HB1.out.trans (hb2.mono HB1.out.size))
    have HI := Lib.hid (itoa_any p (by omega) (by omega) w2 HE2.out)
    have hnl := nm_len (b := 10) (by omega) 4 p.toNat (by omega)
    have htl := HTL.out
    clear hb2 hl2 c0 c1 c2
    rcases HMK.out with ⟨rfl, _⟩ | ⟨rfl, _⟩ | ⟨rfl, _⟩
    · have hpr := print13 HMM.out (.inl rfl)
      generalize text (hh 1 t) = x at *
      generalize nm 10 p.toNat = y at *
      have a1 : ∀ W, (Op.stringOp .add ⟨#[58]⟩ (S y)).run Tryz.prog W = .ok (.string (S ([58] ++ y))) W := fun W => add_str W [58] y (by simp) (by omega)
      have a2 : ∀ W, (Op.stringOp .add (S x) (S ([58] ++ y))).run Tryz.prog W = .ok (.string (S (x ++ ([58] ++ y)))) W := fun W => add_str W x _ (by omega) (by rw [List.length_append, List.length_cons, List.length_nil]; omega)
      rw [← hpr] at a2
      have HP := Lib.hid hpr
      generalize S x = sx at *
      generalize S y = sy at *
      generalize S ([58] ++ y) = sz at *
      generalize hsr : S (print (tt 1 t p)) = sr at *
      have HSR := Lib.hid hsr
      clear hpr hnl htl hsr
      go_wp2_with fail
      refine HI.out.mono ?_
      rintro e w3 ⟨rfl, hb3⟩
      have HB3 := Lib.hid (HB2.out.trans (hb3.mono HB2.out.size))
      clear hb3
      go_wp2
      go_ret
      exact ⟨rfl, HB3.out⟩
    · have hpr := print2 HMM.out
      generalize text (hh 2 t) = x at *
      generalize nm 10 p.toNat = y at *
      have a0 : ∀ W, (Op.stringOp .add ⟨#[91]⟩ (S x)).run Tryz.prog W = .ok (.string (S ([91] ++ x))) W := fun W => add_str W [91] x (by simp) (by omega)
      have a00 : ∀ W, (Op.stringOp .add (S ([91] ++ x)) ⟨#[93]⟩).run Tryz.prog W = .ok (.string (S ([91] ++ x ++ [93]))) W := fun W => add_str W ([91] ++ x) [93] (by rw [List.length_append, List.length_cons, List.length_nil]; omega) (by simp)
      have a1 : ∀ W, (Op.stringOp .add ⟨#[58]⟩ (S y)).run Tryz.prog W = .ok (.string (S ([58] ++ y))) W := fun W => add_str W [58] y (by simp) (by omega)
      have a2 : ∀ W, (Op.stringOp .add (S ([91] ++ x ++ [93])) (S ([58] ++ y))).run Tryz.prog W = .ok (.string (S ([91] ++ x ++ [93] ++ ([58] ++ y)))) W := fun W => add_str W _ _ (by simp only [List.length_append, List.length_cons, List.length_nil]; omega) (by rw [List.length_append, List.length_cons, List.length_nil]; omega)
      rw [← hpr] at a2
      have HP := Lib.hid hpr
      generalize S x = sx at *
      generalize S y = sy at *
      generalize S ([58] ++ y) = sz at *
      generalize S ([91] ++ x) = s1 at *
      generalize S ([91] ++ x ++ [93]) = s2 at *
      generalize hsr : S (print (tt 2 t p)) = sr at *
      have HSR := Lib.hid hsr
      clear hpr hnl htl hsr
      go_wp2_with fail
      refine HI.out.mono ?_
      rintro e w3 ⟨rfl, hb3⟩
      have HB3 := Lib.hid (HB2.out.trans (hb3.mono HB2.out.size))
      clear hb3
      go_wp2
      go_ret
      exact ⟨rfl, HB3.out⟩
    · have hpr := print13 HMM.out (.inr rfl)
      generalize text (hh 3 t) = x at *
      generalize nm 10 p.toNat = y at *
      have a1 : ∀ W, (Op.stringOp .add ⟨#[58]⟩ (S y)).run Tryz.prog W = .ok (.string (S ([58] ++ y))) W := fun W => add_str W [58] y (by simp) (by omega)
      have a2 : ∀ W, (Op.stringOp .add (S x) (S ([58] ++ y))).run Tryz.prog W = .ok (.string (S (x ++ ([58] ++ y)))) W := fun W => add_str W x _ (by omega) (by rw [List.length_append, List.length_cons, List.length_nil]; omega)
      rw [← hpr] at a2
      have HP := Lib.hid hpr
      generalize S x = sx at *
      generalize S y = sy at *
      generalize S ([58] ++ y) = sz at *
      generalize hsr : S (print (tt 3 t p)) = sr at *
      have HSR := Lib.hid hsr
      clear hpr hnl htl hsr
      go_wp2_with fail
      refine HI.out.mono ?_
      rintro e w3 ⟨rfl, hb3⟩
      have HB3 := Lib.hid (HB2.out.trans (hb3.mono HB2.out.size))
      clear hb3
      go_wp2
      go_ret
      exact ⟨rfl, HB3.out⟩
  · have hm' : mayT (tt k t p) = false := by simpa using hm
    have HF := Lib.hid (print_no hm')
    rw [hm'] at HM
    clear hm hm'
    go_enter Tryz.func30, Tryz.ntmps30
    go_wp2_with fail
    rw [← hw0]
    refine HM.out.mono ?_
    rintro e w1 ⟨rfl, hb1⟩
    have HB1 := Lib.hid (HB0.out.trans (hb1.mono HB0.out.size))
    clear hb1 hw0
    go_wp2
    go_ret
    exact ⟨by rw [HF.out]; rfl, HB1.out⟩

end Go.Proofs.YtghdaengkgiekaaGreatDoor.hw
