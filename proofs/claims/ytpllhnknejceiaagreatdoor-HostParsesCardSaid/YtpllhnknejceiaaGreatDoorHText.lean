/-
  Given for the seat's laws: the contracts of text (of groups), Text and Print. No condition but that the library's tables lie as they are laid.
-/
import Derived.Test.YtpllhnknejceiaaGreatDoorHWords
import Derived.Deep.RegionHeld3
namespace Go.Proofs.YtpllhnknejceiaaGreatDoor.hw
open Go.RowKit mem hostp
set_option linter.unusedVariables false

theorem add_str (W : World) (a b : Str) (ha : a.length ≤ 100000) (hb : b.length ≤ 100000) : (Op.stringOp .add (S a) (S b)).run Tryz.prog W = .ok (.string (S (a ++ b))) W := by
  rw [run_string_add W _ _ (by rw [S_size]; omega) (by rw [S_size]; omega), S_append]

theorem bst_le {g : List Nat} (h8 : g.length = 8) : (bst g 8).1 + (bst g 8).2 ≤ 8 := by
  rcases bst_ok h8 8 (Nat.le_refl _) with h | h
  · obtain ⟨h1, h2⟩ := gs_bst h8
    have h3 := gs_ok (isz g) 8
    omega
  · exact h.1

set_option maxRecDepth 100000 in
set_option maxHeartbeats 8000000 in
theorem gtext_any (g : List Nat) (h8 : g.length = 8) (hg : ∀ v ∈ g, v < 65536) (w : World) (he : D64 w) : Calls Tryz.prog 37 #[gv g] w (Gives (.string (S (tx6 (g.map (nm 16)) (bst g 8).1 (bst g 8).2))) w) := by
  obtain ⟨w0, hw0⟩ : ∃ w0, w0 = w.alloc (.cells (gc g) 65) := ⟨_, rfl⟩
  have hb0 : Below w.heap.size w w0 := by rw [hw0]; exact (Below.refl _ w).alloc (Nat.le_refl _) _
  have hl0 : Lies w0 w.heap.size 65 (gc g) := by rw [hw0]; exact Lies.new _ _ _
  have hgap := gap_any g h8 w0
  have hle := bst_le h8
  have hjl : ∀ l : List Nat, (∀ v ∈ l, v ∈ g) → l.length ≤ 8 → (join 58 (l.map (nm 16))).length ≤ 1000 := fun l hl hl8 => by
    have := join_len 58 4 (l := l.map (nm 16)) (fun x hx => by
      obtain ⟨v, hv, rfl⟩ := List.mem_map.1 hx
      exact nm_len (by omega) 3 v (by have := hg v (hl v hv); omega))
    rw [List.length_map] at this
    omega
  generalize bst g 8 = b at *
  obtain ⟨k, m⟩ := b
  dsimp only at hgap hle ⊢
  obtain ⟨t, ht⟩ : ∃ t, t = k + m := ⟨_, rfl⟩
  rw [← ht] at hgap hle
  have hc0 : ∀ W, Below w0.heap.size w0 W → D64 W ∧ Lies W w.heap.size 65 (gc g) := fun W hW => ⟨cell_kept (cell_kept he hb0) hW, hl0.below hW hl0.lt⟩
  obtain ⟨a, b', c, d, e, f, i, j, hgc, c0, c1, c2, c3, c4, c5, c6, c7⟩ := gc_cells hl0 h8
  have hcells : ∀ W, Below w0.heap.size w0 W → W.cell? ⟨w.heap.size, 0, none⟩ = some (.int .u16 a) ∧ W.cell? ⟨w.heap.size, 1, none⟩ = some (.int .u16 b') ∧ W.cell? ⟨w.heap.size, 2, none⟩ = some (.int .u16 c) ∧ W.cell? ⟨w.heap.size, 3, none⟩ = some (.int .u16 d) ∧
      W.cell? ⟨w.heap.size, 4, none⟩ = some (.int .u16 e) ∧ W.cell? ⟨w.heap.size, 5, none⟩ = some (.int .u16 f) ∧ W.cell? ⟨w.heap.size, 6, none⟩ = some (.int .u16 i) ∧ W.cell? ⟨w.heap.size, 7, none⟩ = some (.int .u16 j) := fun W hW =>
    ⟨cell_kept c0 hW, cell_kept c1 hW, cell_kept c2 hW, cell_kept c3 hW, cell_kept c4 hW, cell_kept c5 hW, cell_kept c6 hW, cell_kept c7 hW⟩
  have HGAP := Lib.hid hgap
  have HCELLS := Lib.hid hcells
  have HB0 := Lib.hid hb0
  have hgv : gv g = .agg #[.int .u16 a, .int .u16 b', .int .u16 c, .int .u16 d, .int .u16 e, .int .u16 f, .int .u16 i, .int .u16 j] := by unfold gv; rw [hgc]
  have hwds : ∀ f t : Nat, f ≤ t → t ≤ 8 → ∀ W, Below w0.heap.size w0 W → Calls Tryz.prog 56 #[gv g, .int .i64 (f : Int), .int .i64 (t : Int)] W (Gives (.string (S (join 58 (((g.drop f).take (t - f)).map (nm 16))))) W) := fun f t h1 h2 W hW => words_any g h8 hg f t h1 h2 W (hc0 W hW).1
  rw [hgc] at hw0
  rw [hgv] at hwds ⊢ HGAP
  by_cases hm : m = 0
  · subst hm
    obtain rfl : t = k := by omega
    have h := hwds 0 8 (by omega) (by omega)
    rw [List.drop_zero, Nat.sub_zero, List.take_of_length_le (by omega)] at h
    have HW := Lib.hid h
    have HF := Lib.hid (show tx6 (g.map (nm 16)) t 0 = join 58 (g.map (nm 16)) by unfold tx6; rw [if_pos rfl])
    clear h hwds hgap hcells hjl hc0 hgc hgv c0 c1 c2 c3 c4 c5 c6 c7 hb0 hl0 he ht
    go_enter Tryz.func37, Tryz.ntmps37
    go_upto_block 2 with fail
    rw [← hw0]
    refine HGAP.out.mono ?_
    rintro e w1 ⟨rfl, hb1⟩
    have hc1 := HCELLS.out w1 hb1
    obtain ⟨c0, c1, c2, c3, c4, c5, c6, c7⟩ := hc1
    have HB1 := Lib.hid hb1
    clear hb1
    go_wp2_with fail
    refine (HW.out w1 HB1.out).mono ?_
    rintro e w2 ⟨rfl, hb2⟩
    have HB2 := Lib.hid (HB0.out.trans ((HB1.out.mono HB0.out.size).trans (hb2.mono (Nat.le_trans HB0.out.size HB1.out.size))))
    clear hb2
    go_wp2
    go_ret
    exact ⟨by rw [HF.out]; rfl, HB2.out⟩
  · have hkt : k < t := by omega
    have h1 := hwds 0 k (by omega) (by omega)
    rw [List.drop_zero, Nat.sub_zero] at h1
    have h2 := hwds t 8 (by omega) (by omega)
    rw [List.take_of_length_le (l := g.drop t) (by simp; omega)] at h2
    have l1 := hjl (g.take k) (fun v hv => List.mem_of_mem_take hv) (by simp; omega)
    have l2 := hjl (g.drop t) (fun v hv => List.mem_of_mem_drop hv) (by simp; omega)
    have hf : join 58 ((g.take k).map (nm 16)) ++ ([58, 58] ++ join 58 ((g.drop t).map (nm 16))) = tx6 (g.map (nm 16)) k m := by
      unfold tx6
      rw [if_neg hm, List.map_take, List.map_drop, ht]
      rfl
    rw [← hf]
    generalize join 58 ((g.take k).map (nm 16)) = x at *
    generalize join 58 ((g.drop t).map (nm 16)) = y at *
    have a1 : ∀ W, (Op.stringOp .add (S x) ⟨#[58, 58]⟩).run Tryz.prog W = .ok (.string (S (x ++ [58, 58]))) W := fun W => add_str W x [58, 58] (by omega) (by simp)
    have a2 : ∀ W, (Op.stringOp .add (S (x ++ [58, 58])) (S y)).run Tryz.prog W = .ok (.string (S (x ++ ([58, 58] ++ y)))) W := fun W => by rw [add_str W _ _ (by rw [List.length_append, List.length_cons, List.length_cons, List.length_nil]; omega) (by omega), List.append_assoc]
    generalize S x = sx at *
    generalize S y = sy at *
    obtain ⟨R, r1, r2⟩ : ∃ R : Int → Int → ByteArray, R 0 (k : Int) = sx ∧ R (t : Int) 8 = sy := ⟨fun F T => if F = 0 then sx else sy, if_pos rfl, if_neg (by omega)⟩
    have hw : ∀ (F T : Int) (W : World), Below w0.heap.size w0 W → ((F = 0 ∧ T = (k : Int)) ∨ (F = (t : Int) ∧ T = 8)) → Calls Tryz.prog 56 #[.agg #[.int .u16 a, .int .u16 b', .int .u16 c, .int .u16 d, .int .u16 e, .int .u16 f, .int .u16 i, .int .u16 j], .int .i64 F, .int .i64 T] W (Gives (.string (R F T)) W) := by
      rintro F T W hW (⟨rfl, rfl⟩ | ⟨rfl, rfl⟩)
      · rw [r1]; exact h1 W hW
      · rw [r2]; exact h2 W hW
    have HW := Lib.hid hw
    generalize S (x ++ [58, 58]) = sz at *
    generalize S (x ++ ([58, 58] ++ y)) = sr at *
    clear hw h1 h2 l1 l2 hf hwds hgap hcells hjl hc0 hgc hgv c0 c1 c2 c3 c4 c5 c6 c7 hb0 hl0 he ht hm hg h8
    go_enter Tryz.func37, Tryz.ntmps37
    go_upto_block 2 with fail
    rw [← hw0]
    refine HGAP.out.mono ?_
    rintro e w1 ⟨rfl, hb1⟩
    have hne : ((k : Int) == (t : Int)) = false := beq_eq_false_iff_ne.2 (by omega)
    have HB1 := Lib.hid hb1
    obtain ⟨c0, c1, c2, c3, c4, c5, c6, c7⟩ := HCELLS.out w1 hb1
    clear hb1 hw0
    go_upto_region 4 with fail
    have hz1 := HB1.out.size
    have b1 : Below w0.heap.size w0 w1.drew := HB1.out.drew
    go_region_held3 (fun W' => W'.cell? ⟨w.heap.size, 0, none⟩ = some (.int .u16 a) ∧ W'.cell? ⟨w.heap.size, 1, none⟩ = some (.int .u16 b') ∧ W'.cell? ⟨w.heap.size, 2, none⟩ = some (.int .u16 c) ∧ W'.cell? ⟨w.heap.size, 3, none⟩ = some (.int .u16 d) ∧
      W'.cell? ⟨w.heap.size, 4, none⟩ = some (.int .u16 e) ∧ W'.cell? ⟨w.heap.size, 5, none⟩ = some (.int .u16 f) ∧ W'.cell? ⟨w.heap.size, 6, none⟩ = some (.int .u16 i) ∧ W'.cell? ⟨w.heap.size, 7, none⟩ = some (.int .u16 j))
      (first | exact HCELLS.out _ b3 | exact HCELLS.out _ b2 | exact HCELLS.out _ b1)
      (first
        | (go_at_call 56; refine (HW.out _ _ _ b2 (by first | exact .inl ⟨rfl, rfl⟩ | exact .inr ⟨rfl, rfl⟩)).mono ?_; rintro e w3 ⟨rfl, hb3⟩; have b3 := b2.trans (hb3.mono b2.size); clear hb3)
        | (go_at_call 56; refine (HW.out _ _ _ b1 (by first | exact .inl ⟨rfl, rfl⟩ | exact .inr ⟨rfl, rfl⟩)).mono ?_; rintro e w2 ⟨rfl, hb2⟩; have b2 := b1.trans (hb2.mono b1.size); clear hb2))
    all_goals
      have HB3 := Lib.hid (HB0.out.trans (b3.mono HB0.out.size))
      clear b1 b2 b3
      go_wp2
      go_ret
      exact ⟨rfl, HB3.out⟩

end Go.Proofs.YtpllhnknejceiaaGreatDoor.hw
