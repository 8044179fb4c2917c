/-
  Given for the seat's laws: the contracts of the program's rounds, of a word, of the end. No condition but those of the theorems.
-/
import Derived.Test.YtimlcjdpnhhjdaaPRot
namespace Go.Proofs.Ytimlcjdpnhhjdaa.sp
open Go.RowKit mem
set_option linter.unusedVariables false

/-- a state as a value -/
abbrev sv (s : St) : Value := .agg #[.int .u64 (num s.a), .int .u64 (num s.b), .int .u64 (num s.c), .int .u64 (num s.d)]
/-- a state as it lies -/
abbrev sc (s : St) : Array Value := #[.int .u64 (num s.a), .int .u64 (num s.b), .int .u64 (num s.c), .int .u64 (num s.d)]
/-- the round's world: the state, what is told, and the rest as it was -/
structure RW (w : World) (s : St) (wr : World) : Prop where
  st : Lies wr w.heap.size 88 (sc s)
  ret : Lies wr (w.heap.size + 1) 88 #[.int .u64 0, .int .u64 0, .int .u64 0, .int .u64 0]
  below : Below w.heap.size w wr
theorem RW.set {w wr : World} {s s' : St} (h : RW w s wr) (i : Nat) (x : W64) (e : (sc s).setIfInBounds i (.int .u64 (num x)) = sc s') : RW w s' (wr.setCell ⟨w.heap.size, i, none⟩ (.int .u64 (num x))) :=
  ⟨by rw [← e]; exact h.st.set i _, h.ret.far (p := ⟨w.heap.size, i, none⟩) (by show w.heap.size + 1 ≠ w.heap.size; omega) _, h.below.setCell (p := ⟨w.heap.size, i, none⟩) (Nat.le_refl _) _⟩
theorem RW.drew {w wr : World} {s : St} (h : RW w s wr) : RW w s wr.drew := ⟨h.st, h.ret, h.below.drew⟩
theorem RW.cells {w wr : World} {s : St} (h : RW w s wr) : wr.cell? ⟨w.heap.size, 0, none⟩ = some (.int .u64 (num s.a)) ∧ wr.cell? ⟨w.heap.size, 1, none⟩ = some (.int .u64 (num s.b)) ∧ wr.cell? ⟨w.heap.size, 2, none⟩ = some (.int .u64 (num s.c)) ∧ wr.cell? ⟨w.heap.size, 3, none⟩ = some (.int .u64 (num s.d)) :=
  ⟨h.st.cell 0, h.st.cell 1, h.st.cell 2, h.st.cell 3⟩
theorem RW.live {w wr : World} {s : St} (h : RW w s wr) : wr.frozen? ⟨w.heap.size, 0, none⟩ = false ∧ wr.frozen? ⟨w.heap.size, 1, none⟩ = false ∧ wr.frozen? ⟨w.heap.size, 2, none⟩ = false ∧ wr.frozen? ⟨w.heap.size, 3, none⟩ = false :=
  ⟨h.st.frozen 0, h.st.frozen 1, h.st.frozen 2, h.st.frozen 3⟩

set_option maxHeartbeats 4000000 in
set_option maxRecDepth 100000 in
theorem rounds_any (s : St) (k : Nat) (hk : k ≤ 100) (w : World) : Calls Try.prog 62 #[sv s, .int .i64 (k : Int)] w fun e w' => e = .returned (sv (rnds k s)) ∧ Below w.heap.size w w' := by
  have r13 : ∀ x W, Calls Try.prog 64 #[.int .u64 (num x), .int .i64 13] W fun e w' => e = .returned (.int .u64 (num (rl 13 x))) ∧ w' = W := fun x W => rotl_any x 13 (by omega) (by omega) W
  have r16 : ∀ x W, Calls Try.prog 64 #[.int .u64 (num x), .int .i64 16] W fun e w' => e = .returned (.int .u64 (num (rl 16 x))) ∧ w' = W := fun x W => rotl_any x 16 (by omega) (by omega) W
  have r17 : ∀ x W, Calls Try.prog 64 #[.int .u64 (num x), .int .i64 17] W fun e w' => e = .returned (.int .u64 (num (rl 17 x))) ∧ w' = W := fun x W => rotl_any x 17 (by omega) (by omega) W
  have r21 : ∀ x W, Calls Try.prog 64 #[.int .u64 (num x), .int .i64 21] W fun e w' => e = .returned (.int .u64 (num (rl 21 x))) ∧ w' = W := fun x W => rotl_any x 21 (by omega) (by omega) W
  have r32 : ∀ x W, Calls Try.prog 64 #[.int .u64 (num x), .int .i64 32] W fun e w' => e = .returned (.int .u64 (num (rl 32 x))) ∧ w' = W := fun x W => rotl_any x 32 (by omega) (by omega) W
  have R13 := Lib.hid r13; have R16 := Lib.hid r16; have R17 := Lib.hid r17; have R21 := Lib.hid r21; have R32 := Lib.hid r32
  clear r13 r16 r17 r21 r32
  have hwa := wrap_ad
  have hxr := bits_xr
  go_enter Try.func62, Try.ntmps62
  go_wp2
  go_loopw [6] (fun s6 wr => ∃ j : Nat, j ≤ k ∧ s6 = .int .i64 (j : Int) ∧ Hid (RW w (rnds j s) wr)) (fun s6 _ => k - (intOf s6).toNat)
  case atStart =>
    refine ⟨0, by omega, rfl, Lib.hid ⟨?_, ?_, ?_⟩⟩
    · exact (Lies.new w 88 (sc s)).alloc _
    · have := Lies.new (w.alloc (.cells (sc s) 88)) 88 #[.int .u64 0, .int .u64 0, .int .u64 0, .int .u64 0]
      simpa using this
    · exact ((Below.refl _ _).alloc (Nat.le_refl _) _).alloc (by simp) _
  case round =>
    obtain ⟨j, hj, rfl, HR⟩ := hrel
    by_cases hlt : j < k
    · have HN := Lib.hid (show rnds (j + 1) s = rnd (rnds j s) from rfl)
      generalize rnds j s = t at HR HN
      obtain ⟨a, b, c, d⟩ := t

      obtain ⟨c00, c01, c02, c03⟩ := HR.out.cells
      obtain ⟨f00, f01, f02, f03⟩ := HR.out.live
      go_wp2_with (first | ((with_reducible refine (R13.out _ _).mono ?_); rintro e w' ⟨rfl, rfl⟩) | ((with_reducible refine (R16.out _ _).mono ?_); rintro e w' ⟨rfl, rfl⟩) | ((with_reducible refine (R17.out _ _).mono ?_); rintro e w' ⟨rfl, rfl⟩) | ((with_reducible refine (R21.out _ _).mono ?_); rintro e w' ⟨rfl, rfl⟩) | ((with_reducible refine (R32.out _ _).mono ?_); rintro e w' ⟨rfl, rfl⟩))
      obtain ⟨a1, ha1⟩ : ∃ y, ad a b = y := ⟨_, rfl⟩
      simp only [ha1]
      have H1 := Lib.hid (HR.out.set (s' := ⟨a1, b, c, d⟩) 0 a1 rfl)
      clear c00 c01 c02 c03 f00 f01 f02 f03
      generalize (wr.setCell ⟨w.heap.size, 0, none⟩ (.int .u64 (num a1))) = w1 at *
      obtain ⟨c10, c11, c12, c13⟩ := H1.out.cells
      obtain ⟨f10, f11, f12, f13⟩ := H1.out.live
      refine wp_region_still_tail 7 (by kernel_rfl) (by kernel_rfl) ?_
      simp only [List.take_succ_cons, List.take_zero, List.drop_succ_cons, List.drop_zero]
      repeat still_step
      still_call (R13.out _ _)
      repeat still_step
      refine wpStill_nil ?_
      change wpList _ _ _ _ _ w1.drew
      have D1 := Lib.hid H1.out.drew
      clear c10 c11 c12 c13 f10 f11 f12 f13
      generalize w1.drew = v1 at *
      obtain ⟨c10, c11, c12, c13⟩ := D1.out.cells
      obtain ⟨f10, f11, f12, f13⟩ := D1.out.live
      go_wp2_with (first | ((with_reducible refine (R13.out _ _).mono ?_); rintro e w' ⟨rfl, rfl⟩) | ((with_reducible refine (R16.out _ _).mono ?_); rintro e w' ⟨rfl, rfl⟩) | ((with_reducible refine (R17.out _ _).mono ?_); rintro e w' ⟨rfl, rfl⟩) | ((with_reducible refine (R21.out _ _).mono ?_); rintro e w' ⟨rfl, rfl⟩) | ((with_reducible refine (R32.out _ _).mono ?_); rintro e w' ⟨rfl, rfl⟩))
      obtain ⟨b1, hb1⟩ : ∃ y, xr (rl 13 b) a1 = y := ⟨_, rfl⟩
      obtain ⟨a2, ha2⟩ : ∃ y, rl 32 a1 = y := ⟨_, rfl⟩
      obtain ⟨c1, hc1⟩ : ∃ y, ad c d = y := ⟨_, rfl⟩
      simp only [hb1, ha2, hc1]
      have H2 := Lib.hid (((D1.out.set (s' := ⟨a1, b1, c, d⟩) 1 b1 rfl).set (s' := ⟨a2, b1, c, d⟩) 0 a2 rfl).set (s' := ⟨a2, b1, c1, d⟩) 2 c1 rfl)
      clear c10 c11 c12 c13 f10 f11 f12 f13
      generalize (((v1.setCell ⟨w.heap.size, 1, none⟩ (.int .u64 (num b1))).setCell ⟨w.heap.size, 0, none⟩ (.int .u64 (num a2))).setCell ⟨w.heap.size, 2, none⟩ (.int .u64 (num c1))) = w2 at *
      obtain ⟨c20, c21, c22, c23⟩ := H2.out.cells
      obtain ⟨f20, f21, f22, f23⟩ := H2.out.live
      refine wp_region_still_tail 7 (by kernel_rfl) (by kernel_rfl) ?_
      simp only [List.take_succ_cons, List.take_zero, List.drop_succ_cons, List.drop_zero]
      repeat still_step
      still_call (R16.out _ _)
      repeat still_step
      refine wpStill_nil ?_
      change wpList _ _ _ _ _ w2.drew
      have D2 := Lib.hid H2.out.drew
      clear c20 c21 c22 c23 f20 f21 f22 f23
      generalize w2.drew = v2 at *
      obtain ⟨c20, c21, c22, c23⟩ := D2.out.cells
      obtain ⟨f20, f21, f22, f23⟩ := D2.out.live
      go_wp2_with (first | ((with_reducible refine (R13.out _ _).mono ?_); rintro e w' ⟨rfl, rfl⟩) | ((with_reducible refine (R16.out _ _).mono ?_); rintro e w' ⟨rfl, rfl⟩) | ((with_reducible refine (R17.out _ _).mono ?_); rintro e w' ⟨rfl, rfl⟩) | ((with_reducible refine (R21.out _ _).mono ?_); rintro e w' ⟨rfl, rfl⟩) | ((with_reducible refine (R32.out _ _).mono ?_); rintro e w' ⟨rfl, rfl⟩))
      obtain ⟨d1, hd1⟩ : ∃ y, xr (rl 16 d) c1 = y := ⟨_, rfl⟩
      obtain ⟨a3, ha3⟩ : ∃ y, ad a2 d1 = y := ⟨_, rfl⟩
      simp only [hd1, ha3]
      have H3 := Lib.hid ((D2.out.set (s' := ⟨a2, b1, c1, d1⟩) 3 d1 rfl).set (s' := ⟨a3, b1, c1, d1⟩) 0 a3 rfl)
      clear c20 c21 c22 c23 f20 f21 f22 f23
      generalize ((v2.setCell ⟨w.heap.size, 3, none⟩ (.int .u64 (num d1))).setCell ⟨w.heap.size, 0, none⟩ (.int .u64 (num a3))) = w3 at *
      obtain ⟨c30, c31, c32, c33⟩ := H3.out.cells
      obtain ⟨f30, f31, f32, f33⟩ := H3.out.live
      refine wp_region_still_tail 7 (by kernel_rfl) (by kernel_rfl) ?_
      simp only [List.take_succ_cons, List.take_zero, List.drop_succ_cons, List.drop_zero]
      repeat still_step
      still_call (R21.out _ _)
      repeat still_step
      refine wpStill_nil ?_
      change wpList _ _ _ _ _ w3.drew
      have D3 := Lib.hid H3.out.drew
      clear c30 c31 c32 c33 f30 f31 f32 f33
      generalize w3.drew = v3 at *
      obtain ⟨c30, c31, c32, c33⟩ := D3.out.cells
      obtain ⟨f30, f31, f32, f33⟩ := D3.out.live
      go_wp2_with (first | ((with_reducible refine (R13.out _ _).mono ?_); rintro e w' ⟨rfl, rfl⟩) | ((with_reducible refine (R16.out _ _).mono ?_); rintro e w' ⟨rfl, rfl⟩) | ((with_reducible refine (R17.out _ _).mono ?_); rintro e w' ⟨rfl, rfl⟩) | ((with_reducible refine (R21.out _ _).mono ?_); rintro e w' ⟨rfl, rfl⟩) | ((with_reducible refine (R32.out _ _).mono ?_); rintro e w' ⟨rfl, rfl⟩))
      obtain ⟨d2, hd2⟩ : ∃ y, xr (rl 21 d1) a3 = y := ⟨_, rfl⟩
      obtain ⟨c2, hc2⟩ : ∃ y, ad c1 b1 = y := ⟨_, rfl⟩
      simp only [hd2, hc2]
      have H4 := Lib.hid ((D3.out.set (s' := ⟨a3, b1, c1, d2⟩) 3 d2 rfl).set (s' := ⟨a3, b1, c2, d2⟩) 2 c2 rfl)
      clear c30 c31 c32 c33 f30 f31 f32 f33
      generalize ((v3.setCell ⟨w.heap.size, 3, none⟩ (.int .u64 (num d2))).setCell ⟨w.heap.size, 2, none⟩ (.int .u64 (num c2))) = w4 at *
      obtain ⟨c40, c41, c42, c43⟩ := H4.out.cells
      obtain ⟨f40, f41, f42, f43⟩ := H4.out.live
      refine wp_region_still_tail 7 (by kernel_rfl) (by kernel_rfl) ?_
      simp only [List.take_succ_cons, List.take_zero, List.drop_succ_cons, List.drop_zero]
      repeat still_step
      still_call (R17.out _ _)
      repeat still_step
      refine wpStill_nil ?_
      change wpList _ _ _ _ _ w4.drew
      have D4 := Lib.hid H4.out.drew
      clear c40 c41 c42 c43 f40 f41 f42 f43
      generalize w4.drew = v4 at *
      obtain ⟨c40, c41, c42, c43⟩ := D4.out.cells
      obtain ⟨f40, f41, f42, f43⟩ := D4.out.live
      go_wp2_with (first | ((with_reducible refine (R13.out _ _).mono ?_); rintro e w' ⟨rfl, rfl⟩) | ((with_reducible refine (R16.out _ _).mono ?_); rintro e w' ⟨rfl, rfl⟩) | ((with_reducible refine (R17.out _ _).mono ?_); rintro e w' ⟨rfl, rfl⟩) | ((with_reducible refine (R21.out _ _).mono ?_); rintro e w' ⟨rfl, rfl⟩) | ((with_reducible refine (R32.out _ _).mono ?_); rintro e w' ⟨rfl, rfl⟩))
      obtain ⟨b2, hb2⟩ : ∃ y, xr (rl 17 b1) c2 = y := ⟨_, rfl⟩
      obtain ⟨c3, hc3⟩ : ∃ y, rl 32 c2 = y := ⟨_, rfl⟩
      simp only [hb2, hc3]
      have H5 := Lib.hid ((D4.out.set (s' := ⟨a3, b2, c2, d2⟩) 1 b2 rfl).set (s' := ⟨a3, b2, c3, d2⟩) 2 c3 rfl)
      clear c40 c41 c42 c43 f40 f41 f42 f43
      generalize ((v4.setCell ⟨w.heap.size, 1, none⟩ (.int .u64 (num b2))).setCell ⟨w.heap.size, 2, none⟩ (.int .u64 (num c3))) = w5 at *
      go_roundw
      case rel => exact ⟨j + 1, by omega, by go_num, Lib.hid (by rw [HN.out, show rnd ⟨a, b, c, d⟩ = ⟨a3, b2, c3, d2⟩ from by subst_vars; rfl]; exact H5.out)⟩
      case measure => simp [intOf]; omega
    · obtain rfl : j = k := by omega
      generalize ht : rnds j s = t at HR
      have HT : Bx _ := ⟨ht⟩
      obtain ⟨a, b, c, d⟩ := t
      obtain ⟨c00, c01, c02, c03⟩ := HR.out.cells
      have q := (((HR.out.ret.set 0 (.int .u64 (num a))).set 1 (.int .u64 (num b))).set 2 (.int .u64 (num c))).set 3 (.int .u64 (num d))
      have z := HR.out.ret
      have z0 := z.frozen 0; have z1 := z.frozen 1; have z2 := z.frozen 2; have z3 := z.frozen 3
      have y0 := z.cell 0; have y1 := z.cell 1; have y2 := z.cell 2; have y3 := z.cell 3
      have HB : Bx _ := ⟨((((HR.out.below.setCell (p := ⟨w.heap.size + 1, 0, none⟩) (by show w.heap.size ≤ w.heap.size + 1; omega) (.int .u64 (num a))).setCell (p := ⟨w.heap.size + 1, 1, none⟩) (by show w.heap.size ≤ w.heap.size + 1; omega) (.int .u64 (num b))).setCell (p := ⟨w.heap.size + 1, 2, none⟩) (by show w.heap.size ≤ w.heap.size + 1; omega) (.int .u64 (num c))).setCell (p := ⟨w.heap.size + 1, 3, none⟩) (by show w.heap.size ≤ w.heap.size + 1; omega) (.int .u64 (num d)))⟩
      have k0 := q.cell 0; have k1 := q.cell 1; have k2 := q.cell 2; have k3 := q.cell 3
      simp only [List.setIfInBounds_toArray, List.set_cons_zero, List.set_cons_succ, List.getElem?_toArray, List.getElem?_cons_zero, List.getElem?_cons_succ] at k0 k1 k2 k3
      have K : Bx _ := ⟨And.intro k0 (And.intro k1 (And.intro k2 k3))⟩
      clear z q k0 k1 k2 k3 ht
      go_wp2
      obtain ⟨k0, k1, k2, k3⟩ := K.out
      generalize (((wr.setCell ⟨w.heap.size + 1, 0, none⟩ (.int .u64 (num a))).setCell ⟨w.heap.size + 1, 1, none⟩ (.int .u64 (num b))).setCell ⟨w.heap.size + 1, 2, none⟩ (.int .u64 (num c))).setCell ⟨w.heap.size + 1, 3, none⟩ (.int .u64 (num d)) = wz at *
      refine bodyPost_ret (v := sv ⟨a, b, c, d⟩) (by simp [results, Try.results62, go_sem, k0, k1, k2, k3]) rfl ⟨by rw [HT.out], HB.out⟩
end Go.Proofs.Ytimlcjdpnhhjdaa.sp
