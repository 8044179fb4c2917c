/-
  Given for the seat's laws: the chapter's example, walked: it comes true. No condition.
-/
import Derived.Test.YtpidjekabnnmcaaHAw
namespace Go.Proofs.Ytpidjekabnnmcaa.hp
open Go.RowKit mem find pb
set_option linter.unusedVariables false

set_option maxRecDepth 100000 in
set_option maxHeartbeats 8000000 in
theorem awake_any (w : World) : Calls Try.prog 19 #[] w fun e w' => e = .returned (.bool true) ∧ Below w.heap.size w w' := by
  obtain ⟨v1, v2, v3, v4, v5, v6, v7, v8, v9, v10, v11, v12, v13, v14⟩ := w_v
  obtain ⟨l0, l1, l2, l3, l4, l5, l6⟩ := w_l
  obtain ⟨m0, m1, m4, m5⟩ := w_w
  obtain ⟨n1, n2, n3, n4⟩ := w_n
  have HO := bk.Bx.mk (show Calls Try.prog 21 #[.int .i64 1, .int .i64 2, .int .i64 10, .int .i64 5] w (OfPost 1 2 10 5 w) from of_any 1 2 10 5 w (by omega))
  have K1 := bk.Bx.mk (fun W r q (h : AW w r q E0 W) => aw_lets h (by omega) 0 v1)
  have K2 := bk.Bx.mk (fun W r q (h : AW w r q E0 W) => aw_key h (by omega) 0 v2)
  have K3 := bk.Bx.mk (fun W r q (h : AW w r q E0 W) => show Calls Try.prog 17 #[bp r, .int .i64 1, .bool false] W fun e w' => e = .returned (.int .i64 0) ∧ AW w r q E1 w' from aw_bad h (by omega) m0 1 false v3)
  have K4 := bk.Bx.mk (fun W r q (h : AW w r q E1 W) => aw_lets h (by omega) 0 v4)
  have K5 := bk.Bx.mk (fun W r q (h : AW w r q E1 W) => show Calls Try.prog 17 #[bp r, .int .i64 1, .bool false] W fun e w' => e = .returned (.int .i64 0) ∧ AW w r q E2 w' from aw_bad h (by omega) m1 1 false v5)
  have K6 := bk.Bx.mk (fun W r q (h : AW w r q E2 W) => aw_lets h (by omega) 0 v6)
  have K7 := bk.Bx.mk (fun W r q (h : AW w r q E2 W) => show Calls Try.prog 22 #[bp r, .int .i64 9] W fun e w' => (∃ A' c', e = .returned (.slice A' (E2.ticksL 9).length c') ∧ pl.RowAt w' (fun g => g < w'.heap.size) A' (pl.I8 (E2.ticksL 9))) ∧ AW w r q E3 w' from aw_ticks h (by omega) n1 n2 9 (by omega))
  have K8 := bk.Bx.mk (fun W r q (h : AW w r q E3 W) => aw_lets h (by omega) 0 v8)
  have K9 := bk.Bx.mk (fun W r q (h : AW w r q E3 W) => show Calls Try.prog 22 #[bp r, .int .i64 1] W fun e w' => (∃ A' c', e = .returned (.slice A' (E3.ticksL 1).length c') ∧ pl.RowAt w' (fun g => g < w'.heap.size) A' (pl.I8 (E3.ticksL 1))) ∧ AW w r q E4 w' from aw_ticks h (by omega) n3 n4 1 (by omega))
  have K10 := bk.Bx.mk (fun W r q (h : AW w r q E4 W) => aw_lets h (by omega) 0 v10)
  have K11 := bk.Bx.mk (fun W r q (h : AW w r q E4 W) => show Calls Try.prog 16 #[bp r, .int .i64 1, .bool true] W fun e w' => e = .returned (.int .i64 0) ∧ AW w r q E5 w' from aw_good h (by omega) m4 1 true v11)
  have K12 := bk.Bx.mk (fun W r q (h : AW w r q E5 W) => aw_lets h (by omega) 0 v12)
  have K13 := bk.Bx.mk (fun W r q (h : AW w r q E5 W) => show Calls Try.prog 16 #[bp r, .int .i64 9, .bool true] W fun e w' => e = .returned (.int .i64 30) ∧ AW w r q E6 w' from aw_good h (by omega) m5 9 true v13)
  have K14 := bk.Bx.mk (fun W r q (h : AW w r q E6 W) => aw_now h v14)
  rw [v7] at K7
  rw [v9] at K9
  have KN := bk.Bx.mk (fun (A : Option Addr) (c : Nat) (W : World) (hb : Below w.heap.size w W) (hp : PasAt W (fun g => w.heap.size ≤ g ∧ g < W.heap.size) A (pasOf 1)) => aw_new 1 2 10 5 w A c hb hp (w_fit A c))
  clear v1 v2 v3 v4 v5 v6 v7 v8 v9 v10 v11 v12 v13 v14 l0 l1 l2 l3 l4 l5 l6 m0 m1 m4 m5 n1 n2 n3 n4
  go_enter Try.func19, Try.ntmps19
  go_wp2_with fail
  refine HO.out.mono ?_
  rintro e wa ⟨⟨A, c, rfl, hp⟩, hb⟩
  have KN2 := bk.Bx.mk (KN.out A c wa hb hp)
  clear hp hb HO KN
  generalize (cfOf 1 2 10 5 A c).v = cv at *
  go_wp2_with fail
  refine KN2.out.mono ?_
  rintro e w0 ⟨r, q, rfl, h0⟩
  rw [w_e0] at h0
  have H0 := bk.Bx.mk h0
  clear h0 KN2
  go_wp2_with fail
  refine (K1.out _ _ _ H0.out).mono ?_
  rintro e wa1 ⟨rfl, ha1⟩
  have Ha1 := bk.Bx.mk ha1
  clear ha1 H0 K1
  go_wp2_with fail
  refine (K2.out _ _ _ Ha1.out).mono ?_
  rintro e wa2 ⟨rfl, ha2⟩
  have Ha2 := bk.Bx.mk ha2
  clear ha2 Ha1 K2
  go_wp2_with fail
  refine (K3.out _ _ _ Ha2.out).mono ?_
  rintro e wa3 ⟨rfl, ha3⟩
  have Ha3 := bk.Bx.mk ha3
  clear ha3 Ha2 K3
  go_wp2_with fail
  refine (K4.out _ _ _ Ha3.out).mono ?_
  rintro e wa4 ⟨rfl, ha4⟩
  have Ha4 := bk.Bx.mk ha4
  clear ha4 Ha3 K4
  go_wp2_with fail
  refine (K5.out _ _ _ Ha4.out).mono ?_
  rintro e wa5 ⟨rfl, ha5⟩
  have Ha5 := bk.Bx.mk ha5
  clear ha5 Ha4 K5
  go_wp2_with fail
  refine (K6.out _ _ _ Ha5.out).mono ?_
  rintro e wa6 ⟨rfl, ha6⟩
  have Ha6 := bk.Bx.mk ha6
  clear ha6 Ha5 K6
  go_wp2_with fail
  refine (K7.out _ _ _ Ha6.out).mono ?_
  rintro e wa7 ⟨⟨Aa7, ca7, rfl, hra7⟩, ha7⟩
  have Ha7 := bk.Bx.mk ha7
  clear ha7 Ha6 K7
  clear hra7
  go_wp2_with fail
  refine (K8.out _ _ _ Ha7.out).mono ?_
  rintro e wa8 ⟨rfl, ha8⟩
  have Ha8 := bk.Bx.mk ha8
  clear ha8 Ha7 K8
  go_wp2_with fail
  refine (K9.out _ _ _ Ha8.out).mono ?_
  rintro e wa9 ⟨⟨Aa9, ca9, rfl, hra9⟩, ha9⟩
  have Ha9 := bk.Bx.mk ha9
  clear ha9 Ha8 K9
  obtain ⟨g9, off9, hA9, hg9, hc9⟩ := hra9.ex (by simp [pl.I8])
  have d9 := hc9 0 (.int .i64 1) rfl
  subst hA9
  rw [Nat.add_zero] at d9
  clear hc9 hra9
  go_wp2_with fail
  refine (K10.out _ _ _ Ha9.out).mono ?_
  rintro e wa10 ⟨rfl, ha10⟩
  have Ha10 := bk.Bx.mk ha10
  clear ha10 Ha9 K10
  go_wp2_with fail
  refine (K11.out _ _ _ Ha10.out).mono ?_
  rintro e wa11 ⟨rfl, ha11⟩
  have Ha11 := bk.Bx.mk ha11
  clear ha11 Ha10 K11
  go_wp2_with fail
  refine (K12.out _ _ _ Ha11.out).mono ?_
  rintro e wa12 ⟨rfl, ha12⟩
  have Ha12 := bk.Bx.mk ha12
  clear ha12 Ha11 K12
  go_wp2_with fail
  refine (K13.out _ _ _ Ha12.out).mono ?_
  rintro e wa13 ⟨rfl, ha13⟩
  have Ha13 := bk.Bx.mk ha13
  clear ha13 Ha12 K13
  go_wp2_with fail
  refine (K14.out _ _ _ Ha13.out).mono ?_
  rintro e wa14 ⟨rfl, ha14⟩
  have Ha14 := bk.Bx.mk ha14
  clear ha14 Ha13 K14
  go_wp2_with fail
  go_ret
  exact ⟨rfl, Ha14.out.keep⟩
end Go.Proofs.Ytpidjekabnnmcaa.hp
