/-
  Given for the seat's laws: the contracts of the project's Good, Back. No condition but those of the theorems.
-/
import Derived.Test.YtpidjekabnnmcaaBFns
namespace Go.Proofs.Ytpidjekabnnmcaa.bk
open Go.RowKit mem
set_option linter.unusedVariables false
set_option linter.unusedSimpArgs false

theorem grew_two (w : World) (o o2 : Obj) : Grew w ((w.alloc o).alloc o2) := ((Grew.refl w).alloc o).alloc o2
/-- a result cell, fresh -/
theorem lays_zero (w : World) (o : Obj) : Lays ((w.alloc o).alloc (.cells #[.bool false, .int .i64 0, .int .i64 0, .bool false] 43)) (w.heap.size + 1) zb := by
  have h := lays_box (w.alloc o) zb
  have e : (w.alloc o).heap.size = w.heap.size + 1 := by simp
  rw [e] at h
  exact h
theorem lays_box2 (w : World) (b : Bk) (o : Obj) : Lays ((w.alloc (.cells #[.bool b.op, .int .i64 b.si, .int .i64 b.sp, .bool b.tr] 43)).alloc o) w.heap.size b := (lays_box w b).grew (grew_box _ _)

set_option maxHeartbeats 1000000 in
theorem good_any (b : Bk) (u : Bool) (w : World) : Calls Try.prog 58 #[bv b, .bool u] w (Gv (bv (goodb b u)) w) := by
  have HC := Bx.mk (ends_any b u)
  unfold Gv at *
  have HL := Bx.mk (lays_box2 w b)
  have HZ := Bx.mk (lays_zero w)
  have HM : Bx (goodb b u = if ends b u then zb else b) := ⟨rfl⟩
  generalize ends b u = x at *
  generalize goodb b u = m at *
  obtain ⟨o, s, p, t⟩ := b
  go_enter Try.func58, Try.ntmps58
  go_wp2_with fail
  refine (HC.out _).mono ?_
  rintro e w2 ⟨rfl, hg⟩
  obtain ⟨c0, c1, c2, c3, f0⟩ := (HL.out _).grew hg
  obtain ⟨d0, d1, d2, d3, g0⟩ := (HZ.out _).grew hg
  have G := Bx.mk ((grew_two _ _ _).trans hg)
  clear hg HC HL HZ
  cases x with
  | true =>
    obtain rfl : m = zb := by simpa using HM.out
    clear HM
    go_wp2_with fail
    refine bodyPost_ret (v := bv zb) (by simp [results, Try.results58, go_sem, d0, d1, d2, d3]) rfl ⟨rfl, ?_⟩
    repeat (first | exact G.out | exact Grew.refl _ | apply Grew.drew | apply Grew.alloc | refine Grew.setCell ?_ (by simp) _)
  | false =>
    obtain rfl : m = ⟨o, s, p, t⟩ := by simpa using HM.out
    clear HM
    go_wp2_with fail
    refine bodyPost_ret (v := bv ⟨o, s, p, t⟩) (by simp [results, Try.results58, go_sem, d0, d1, d2, d3]) rfl ⟨rfl, ?_⟩
    repeat (first | exact G.out | exact Grew.refl _ | apply Grew.drew | apply Grew.alloc | refine Grew.setCell ?_ (by simp) _)

set_option maxHeartbeats 1000000 in
theorem back_any (b : Bk) (u : Bool) (w : World) : Calls Try.prog 62 #[bv b, .bool u] w (Gv (bv (backb b u)) w) := by
  have HC := Bx.mk (ends_any b u)
  unfold Gv at *
  have HL := Bx.mk (lays_box2 w b)
  have HZ := Bx.mk (lays_zero w)
  have HM : Bx (backb b u = if ends b u then { b with tr := false } else b) := ⟨rfl⟩
  generalize ends b u = x at *
  generalize backb b u = m at *
  obtain ⟨o, s, p, t⟩ := b
  go_enter Try.func62, Try.ntmps62
  go_wp2_with fail
  refine (HC.out _).mono ?_
  rintro e w2 ⟨rfl, hg⟩
  obtain ⟨c0, c1, c2, c3, f0⟩ := (HL.out _).grew hg
  obtain ⟨d0, d1, d2, d3, g0⟩ := (HZ.out _).grew hg
  have G := Bx.mk ((grew_two _ _ _).trans hg)
  clear hg HC HL HZ
  cases x with
  | true =>
    obtain rfl : m = ⟨o, s, p, false⟩ := by simpa using HM.out
    clear HM
    go_wp2_with fail
    refine bodyPost_ret (v := bv ⟨o, s, p, false⟩) (by simp [results, Try.results62, go_sem, d0, d1, d2, d3]) rfl ⟨rfl, ?_⟩
    repeat (first | exact G.out | exact Grew.refl _ | apply Grew.drew | apply Grew.alloc | refine Grew.setCell ?_ (by simp) _)
  | false =>
    obtain rfl : m = ⟨o, s, p, t⟩ := by simpa using HM.out
    clear HM
    go_wp2_with fail
    refine bodyPost_ret (v := bv ⟨o, s, p, t⟩) (by simp [results, Try.results62, go_sem, d0, d1, d2, d3]) rfl ⟨rfl, ?_⟩
    repeat (first | exact G.out | exact Grew.refl _ | apply Grew.drew | apply Grew.alloc | refine Grew.setCell ?_ (by simp) _)

end Go.Proofs.Ytpidjekabnnmcaa.bk
