/-
  Given for the seat's laws: the chapter's examples: awake returns true. No condition.
-/
import Derived.Test.YtkclhfoeimbikaaDoorKTold
import Derived.Lib.SlBytesConst
namespace Go.Proofs.YtkclhfoeimbikaaDoor.hd
open Go.RowKit mem
set_option linter.unusedVariables false

theorem rowF_cells {W : World} {B : Nat} {A : Option Addr} {n c : Nat} {fs : Flds} (h : RowF W B (.slice A n c) fs) (hn : fs.length = n) (h0 : 0 < n) : ∃ g, A = some ⟨g, 0, none⟩ ∧ B ≤ g ∧ g < W.heap.size ∧ ∀ j u, (flat2 fs)[j]? = some u → W.cell? ⟨g, j, none⟩ = some u := by
  subst hn
  rcases h.2 with ⟨hv, h1⟩ | ⟨g, cap, cur, hv, hb, hh, hnc, hm, hs, ht⟩
  · omega
  · simp only [Value.slice.injEq] at hv
    obtain ⟨rfl, _, rfl⟩ := hv
    refine ⟨g, rfl, hb, (Array.getElem?_eq_some_iff.1 hh).1, fun j u hu => ?_⟩
    rw [← ht, List.getElem?_take] at hu
    split at hu
    · simp only [World.cell?, hh]
      simpa using hu
    · cases hu
theorem take_b {s l : Str} {fs : Flds} {n : Nat} (h : take s = (l, fs, n, 0)) {w w' : World} {en : Ending} (ht : TakeTo (take s) w en w') : ∃ A c, en = .returned (.tuple #[.agg #[.string (S l), .slice A fs.length c], .int .i64 (n : Int), .int .i64 0]) ∧ RowF w' w.heap.size (.slice A fs.length c) fs ∧ Below w.heap.size w w' := by
  rw [h] at ht
  obtain ⟨v, rfl, hr, hb⟩ := ht
  obtain ⟨A, c, rfl⟩ := rowF_form hr
  exact ⟨A, c, rfl, hr, hb⟩
set_option maxHeartbeats 8000000 in
set_option maxRecDepth 100000 in
theorem awake_any (w : World) : Calls Tryd.prog 22 #[] w (True_ w) := by
  have T0 : Bx (∀ W, Calls Tryd.prog 24 #[.int .i64 5, .string ⟨#[65, 13, 10]⟩] W (True_ W)) := ⟨fun W => told_any [65, 13, 10] 5 (by decide +kernel) (by decide) W⟩
  have T1 : Bx (∀ W, Calls Tryd.prog 24 #[.int .i64 5, .string ⟨#[65, 13]⟩] W (True_ W)) := ⟨fun W => told_any [65, 13] 5 (by decide +kernel) (by decide) W⟩
  have T2 : Bx (∀ W, Calls Tryd.prog 24 #[.int .i64 6, .string ⟨#[13]⟩] W (True_ W)) := ⟨fun W => told_any [13] 6 (by decide +kernel) (by decide) W⟩
  have T3 : Bx (∀ W, Calls Tryd.prog 24 #[.int .i64 6, .string ⟨#[65, 9]⟩] W (True_ W)) := ⟨fun W => told_any [65, 9] 6 (by decide +kernel) (by decide) W⟩
  have T4 : Bx (∀ W, Calls Tryd.prog 24 #[.int .i64 6, .string ⟨#[65, 10]⟩] W (True_ W)) := ⟨fun W => told_any [65, 10] 6 (by decide +kernel) (by decide) W⟩
  have T5 : Bx (∀ W, Calls Tryd.prog 24 #[.int .i64 6, .string ⟨#[65, 13, 120]⟩] W (True_ W)) := ⟨fun W => told_any [65, 13, 120] 6 (by decide +kernel) (by decide) W⟩
  have T6 : Bx (∀ W, Calls Tryd.prog 24 #[.int .i64 6, .string ⟨#[65, 13, 10, 32, 120]⟩] W (True_ W)) := ⟨fun W => told_any [65, 13, 10, 32, 120] 6 (by decide +kernel) (by decide) W⟩
  have T7 : Bx (∀ W, Calls Tryd.prog 24 #[.int .i64 6, .string ⟨#[65, 13, 10, 120, 32]⟩] W (True_ W)) := ⟨fun W => told_any [65, 13, 10, 120, 32] 6 (by decide +kernel) (by decide) W⟩
  have T8 : Bx (∀ W, Calls Tryd.prog 24 #[.int .i64 6, .string ⟨#[65, 13, 10, 58]⟩] W (True_ W)) := ⟨fun W => told_any [65, 13, 10, 58] 6 (by decide +kernel) (by decide) W⟩
  have T9 : Bx (∀ W, Calls Tryd.prog 24 #[.int .i64 6, .string ⟨#[65, 13, 10, 120, 13]⟩] W (True_ W)) := ⟨fun W => told_any [65, 13, 10, 120, 13] 6 (by decide +kernel) (by decide) W⟩
  have M1 : Bx (∀ W, Calls Tryd.prog 33 #[.int .i64 512] W (Gives (.string (S (List.replicate 512 65))) W)) := ⟨fun W => many_any 512 (by omega) W⟩
  have M2 : Bx (∀ W, Calls Tryd.prog 33 #[.int .i64 511] W (Gives (.string (S (List.replicate 511 65))) W)) := ⟨fun W => many_any 511 (by omega) W⟩
  have N1 : Bx (∀ W, Calls Tryd.prog 24 #[.int .i64 3, .string (S (List.replicate 512 65))] W (True_ W)) := ⟨fun W => told_any _ 3 (by decide +kernel) (by simp) W⟩
  have N2 : Bx (∀ W, Calls Tryd.prog 24 #[.int .i64 5, .string (S (List.replicate 511 65))] W (True_ W)) := ⟨fun W => told_any _ 5 (by decide +kernel) (by simp) W⟩
  have HT : Bx (Calls Tryd.prog 9 #[.slice (some ⟨w.heap.size, 0, none⟩) 25 25] (w.alloc (.cells #[.int .u8 65, .int .u8 32, .int .u8 98, .int .u8 13, .int .u8 10, .int .u8 88, .int .u8 121, .int .u8 58, .int .u8 32, .int .u8 99, .int .u8 32, .int .u8 100, .int .u8 32, .int .u8 13, .int .u8 10, .int .u8 122, .int .u8 58, .int .u8 13, .int .u8 10, .int .u8 13, .int .u8 10, .int .u8 109, .int .u8 111, .int .u8 114, .int .u8 101] 5 (25, 26))) (TakeTo (take [65, 32, 98, 13, 10, 88, 121, 58, 32, 99, 32, 100, 32, 13, 10, 122, 58, 13, 10, 13, 10, 109, 111, 114, 101]) (w.alloc (.cells #[.int .u8 65, .int .u8 32, .int .u8 98, .int .u8 13, .int .u8 10, .int .u8 88, .int .u8 121, .int .u8 58, .int .u8 32, .int .u8 99, .int .u8 32, .int .u8 100, .int .u8 32, .int .u8 13, .int .u8 10, .int .u8 122, .int .u8 58, .int .u8 13, .int .u8 10, .int .u8 13, .int .u8 10, .int .u8 109, .int .u8 111, .int .u8 114, .int .u8 101] 5 (25, 26))))) :=
    ⟨take_any (ok := fun g => g = w.heap.size) (src_lit w (ints [65, 32, 98, 13, 10, 88, 121, 58, 32, 99, 32, 100, 32, 13, 10, 122, 58, 13, 10, 13, 10, 109, 111, 114, 101]) (25, 26) (ints_rng _) (by decide)) (fun g hg => by subst hg; simp) (by omega)⟩
  have E1 : ∀ W, (Op.equalIn 10000 49 (.agg #[.string ⟨#[120, 121]⟩, .string ⟨#[99, 32, 100]⟩]) (.agg #[.string ⟨#[120, 121]⟩, .string ⟨#[99, 32, 100]⟩])).run Tryd.prog W = .ok true W := fun W => eq_two_d 9998 ([120, 121], [99, 32, 100]) ([120, 121], [99, 32, 100]) W
  have E2 : ∀ W, (Op.equalIn 10000 49 (.agg #[.string ⟨#[122]⟩, .string ⟨#[]⟩]) (.agg #[.string ⟨#[122]⟩, .string ⟨#[]⟩])).run Tryd.prog W = .ok true W := fun W => eq_two_d 9998 ([122], []) ([122], []) W
  have hcv : (convert 22 22 (.slice (some ⟨w.heap.size, 0, none⟩) 25 25)).run Tryd.prog (w.alloc (.cells #[.int .u8 65, .int .u8 32, .int .u8 98, .int .u8 13, .int .u8 10, .int .u8 88, .int .u8 121, .int .u8 58, .int .u8 32, .int .u8 99, .int .u8 32, .int .u8 100, .int .u8 32, .int .u8 13, .int .u8 10, .int .u8 122, .int .u8 58, .int .u8 13, .int .u8 10, .int .u8 13, .int .u8 10, .int .u8 109, .int .u8 111, .int .u8 114, .int .u8 101] 5)) = .ok (.slice (some ⟨w.heap.size, 0, none⟩) 25 25) (w.alloc (.cells #[.int .u8 65, .int .u8 32, .int .u8 98, .int .u8 13, .int .u8 10, .int .u8 88, .int .u8 121, .int .u8 58, .int .u8 32, .int .u8 99, .int .u8 32, .int .u8 100, .int .u8 32, .int .u8 13, .int .u8 10, .int .u8 122, .int .u8 58, .int .u8 13, .int .u8 10, .int .u8 13, .int .u8 10, .int .u8 109, .int .u8 111, .int .u8 114, .int .u8 101] 5 (25, 26))) := Lib.run_convert_bytes_const w 22 5 #[.int .u8 65, .int .u8 32, .int .u8 98, .int .u8 13, .int .u8 10, .int .u8 88, .int .u8 121, .int .u8 58, .int .u8 32, .int .u8 99, .int .u8 32, .int .u8 100, .int .u8 32, .int .u8 13, .int .u8 10, .int .u8 122, .int .u8 58, .int .u8 13, .int .u8 10, .int .u8 13, .int .u8 10, .int .u8 109, .int .u8 111, .int .u8 114, .int .u8 101] 25 25 Tryd.underlying22 Tryd.underlying5
  go_enter Tryd.func22, Tryd.ntmps22
  go_wp2_with fail
  refine HT.out.mono ?_
  intro en w1 ht
  obtain ⟨A, c, rfl, hr, hb⟩ := take_b (l := [65, 32, 98]) (fs := [([120, 121], [99, 32, 100]), ([122], [])]) (n := 21) (by decide +kernel) ht
  obtain ⟨g, rfl, hg1, hg2, hc⟩ := rowF_cells hr rfl (by decide)
  have z0 := hc 0 _ rfl
  have z1 := hc 1 _ rfl
  have z2 := hc 2 _ rfl
  have z3 := hc 3 _ rfl
  have L := Lies.new w1 25 #[.string (S [65, 32, 98]), .slice (some ⟨g, 0, none⟩) 2 c]
  have bl : ∀ i, i < 4 → (w1.alloc (.cells #[.string (S [65, 32, 98]), .slice (some ⟨g, 0, none⟩) 2 c] 25)).cell? ⟨g, i, none⟩ = w1.cell? ⟨g, i, none⟩ := fun i _ => World.cell?_of_block (Below.heap_alloc _ _ _ hg2)
  have y0 : (w1.alloc (.cells #[.string (S [65, 32, 98]), .slice (some ⟨g, 0, none⟩) 2 c] 25)).cell? ⟨g, 0, none⟩ = some (.string ⟨#[120, 121]⟩) := (bl 0 (by omega)).trans z0
  have y1 : (w1.alloc (.cells #[.string (S [65, 32, 98]), .slice (some ⟨g, 0, none⟩) 2 c] 25)).cell? ⟨g, 1, none⟩ = some (.string ⟨#[99, 32, 100]⟩) := (bl 1 (by omega)).trans z1
  have y2 : (w1.alloc (.cells #[.string (S [65, 32, 98]), .slice (some ⟨g, 0, none⟩) 2 c] 25)).cell? ⟨g, 2, none⟩ = some (.string ⟨#[122]⟩) := (bl 2 (by omega)).trans z2
  have y3 : (w1.alloc (.cells #[.string (S [65, 32, 98]), .slice (some ⟨g, 0, none⟩) 2 c] 25)).cell? ⟨g, 3, none⟩ = some (.string ⟨#[]⟩) := (bl 3 (by omega)).trans z3
  have hb1 : Below w.heap.size w (w1.alloc (.cells #[.string (S [65, 32, 98]), .slice (some ⟨g, 0, none⟩) 2 c] 25)) := (((Below.refl w.heap.size w).alloc (Nat.le_refl _) _).trans (hb.mono (by simp))).alloc (by have := hb.size; simp at this; omega) _
  have HB := Bx.mk hb1
  have l0 : (w1.alloc (.cells #[.string (S [65, 32, 98]), .slice (some ⟨g, 0, none⟩) 2 c] 25)).cell? ⟨w1.heap.size, 0, none⟩ = some (.string ⟨#[65, 32, 98]⟩) := L.cell 0
  have l1 : (w1.alloc (.cells #[.string (S [65, 32, 98]), .slice (some ⟨g, 0, none⟩) 2 c] 25)).cell? ⟨w1.heap.size, 1, none⟩ = some (.slice (some ⟨g, 0, none⟩) 2 c) := L.cell 1
  clear ht hr hb hg1 hg2 hc z0 z1 z2 z3 L bl hb1 HT
  go_upto_region 2 with fail
  generalize w1.alloc (.cells #[.string (S [65, 32, 98]), .slice (some ⟨g, 0, none⟩) 2 c] 25) = W1 at *
  go_wp2_with fail
  refine (T0.out _).mono ?_
  rintro e w2 ⟨rfl, h2⟩
  have HB' := Bx.mk (HB.out.trans (h2.mono HB.out.size))
  clear h2 HB
  have HB := HB'
  clear HB'
  go_wp2_with fail
  refine (T1.out _).mono ?_
  rintro e w2 ⟨rfl, h2⟩
  have HB' := Bx.mk (HB.out.trans (h2.mono HB.out.size))
  clear h2 HB
  have HB := HB'
  clear HB'
  go_wp2_with fail
  refine (T2.out _).mono ?_
  rintro e w2 ⟨rfl, h2⟩
  have HB' := Bx.mk (HB.out.trans (h2.mono HB.out.size))
  clear h2 HB
  have HB := HB'
  clear HB'
  go_wp2_with fail
  refine (T3.out _).mono ?_
  rintro e w2 ⟨rfl, h2⟩
  have HB' := Bx.mk (HB.out.trans (h2.mono HB.out.size))
  clear h2 HB
  have HB := HB'
  clear HB'
  go_wp2_with fail
  refine (T4.out _).mono ?_
  rintro e w2 ⟨rfl, h2⟩
  have HB' := Bx.mk (HB.out.trans (h2.mono HB.out.size))
  clear h2 HB
  have HB := HB'
  clear HB'
  go_wp2_with fail
  refine (T5.out _).mono ?_
  rintro e w2 ⟨rfl, h2⟩
  have HB' := Bx.mk (HB.out.trans (h2.mono HB.out.size))
  clear h2 HB
  have HB := HB'
  clear HB'
  go_wp2_with fail
  refine (T6.out _).mono ?_
  rintro e w2 ⟨rfl, h2⟩
  have HB' := Bx.mk (HB.out.trans (h2.mono HB.out.size))
  clear h2 HB
  have HB := HB'
  clear HB'
  go_wp2_with fail
  refine (T7.out _).mono ?_
  rintro e w2 ⟨rfl, h2⟩
  have HB' := Bx.mk (HB.out.trans (h2.mono HB.out.size))
  clear h2 HB
  have HB := HB'
  clear HB'
  go_wp2_with fail
  refine (T8.out _).mono ?_
  rintro e w2 ⟨rfl, h2⟩
  have HB' := Bx.mk (HB.out.trans (h2.mono HB.out.size))
  clear h2 HB
  have HB := HB'
  clear HB'
  go_wp2_with fail
  refine (T9.out _).mono ?_
  rintro e w2 ⟨rfl, h2⟩
  have HB' := Bx.mk (HB.out.trans (h2.mono HB.out.size))
  clear h2 HB
  have HB := HB'
  clear HB'
  go_wp2_with fail
  refine (M1.out _).mono ?_
  rintro e w2 ⟨rfl, h2⟩
  have HB' := Bx.mk (HB.out.trans (h2.mono HB.out.size))
  clear h2 HB
  have HB := HB'
  clear HB'
  go_wp2_with fail
  refine (N1.out _).mono ?_
  rintro e w2 ⟨rfl, h2⟩
  have HB' := Bx.mk (HB.out.trans (h2.mono HB.out.size))
  clear h2 HB
  have HB := HB'
  clear HB'
  go_wp2_with fail
  refine (M2.out _).mono ?_
  rintro e w2 ⟨rfl, h2⟩
  have HB' := Bx.mk (HB.out.trans (h2.mono HB.out.size))
  clear h2 HB
  have HB := HB'
  clear HB'
  go_wp2_with fail
  refine (N2.out _).mono ?_
  rintro e w2 ⟨rfl, h2⟩
  have HB' := Bx.mk (HB.out.trans (h2.mono HB.out.size))
  clear h2 HB
  have HB := HB'
  clear HB'
  go_wp2_with fail
  exact bodyPost_ret (v := .bool true) (by simp [results, Tryd.results22, go_sem]) rfl ⟨rfl, HB.out⟩
end Go.Proofs.YtkclhfoeimbikaaDoor.hd
