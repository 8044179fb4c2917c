/-
  Given for the seat's laws: the contracts of the document's own Good, Back. No condition but those of the theorems.
-/
import Derived.Test.YtcnlcjlipbpjoaaBRef
namespace Go.Proofs.Ytcnlcjlipbpjoaa.bk
open Go.RowKit mem
set_option linter.unusedVariables false
set_option linter.unusedSimpArgs false

set_option maxHeartbeats 1000000 in
theorem rgood_any (b : Bk) (u : Bool) (w : World) : Calls Try.prog 18 #[bv b, .bool u] w (Gv (bv (goodb b u)) w) := by
  have HC := Bx.mk (rmay_any b)
  unfold Gv at *
  have HL := Bx.mk (lays_box2 w b)
  have HZ := Bx.mk (lays_zero w)
  have HM : Bx (goodb b u = if u && b.tr && may b then zb else b) := ⟨rfl⟩
  generalize may b = x at *
  generalize goodb b u = m at *
  obtain ⟨o, s, p, t⟩ := b
  go_enter Try.func18, Try.ntmps18
  go_wp2_with fail
  refine (HC.out _).mono ?_
  rintro e w2 ⟨rfl, hg⟩
  obtain ⟨c0, c1, c2, c3, f0⟩ := (HL.out _).grew hg
  obtain ⟨d0, d1, d2, d3, g0⟩ := (HZ.out _).grew hg
  have G := Bx.mk ((grew_two _ _ _).trans hg)
  clear hg HC HL HZ
  cases x with
  | false =>
    obtain rfl : m = ⟨o, s, p, t⟩ := by simpa using HM.out
    clear HM
    go_wp2_with fail
    refine bodyPost_ret (v := bv ⟨o, s, p, t⟩) (by simp [results, Try.results18, go_sem, d0, d1, d2, d3]) rfl ⟨rfl, ?_⟩
    repeat (first | exact G.out | exact Grew.refl _ | apply Grew.drew | apply Grew.alloc | refine Grew.setCell ?_ (by simp) _)
  | true =>
    cases u with
    | false =>
      obtain rfl : m = ⟨o, s, p, t⟩ := by simpa using HM.out
      clear HM
      go_wp2_with fail
      refine bodyPost_ret (v := bv ⟨o, s, p, t⟩) (by simp [results, Try.results18, go_sem, d0, d1, d2, d3]) rfl ⟨rfl, ?_⟩
      repeat (first | exact G.out | exact Grew.refl _ | apply Grew.drew | apply Grew.alloc | refine Grew.setCell ?_ (by simp) _)
    | true =>
      cases t with
      | false =>
        obtain rfl : m = ⟨o, s, p, false⟩ := by simpa using HM.out
        clear HM
        go_wp2_with fail
        refine bodyPost_ret (v := bv ⟨o, s, p, false⟩) (by simp [results, Try.results18, go_sem, d0, d1, d2, d3]) rfl ⟨rfl, ?_⟩
        repeat (first | exact G.out | exact Grew.refl _ | apply Grew.drew | apply Grew.alloc | refine Grew.setCell ?_ (by simp) _)
      | true =>
        obtain rfl : m = zb := by simpa using HM.out
        clear HM
        go_wp2_with fail
        refine bodyPost_ret (v := bv zb) (by simp [results, Try.results18, go_sem, d0, d1, d2, d3]) rfl ⟨rfl, ?_⟩
        repeat (first | exact G.out | exact Grew.refl _ | apply Grew.drew | apply Grew.alloc | refine Grew.setCell ?_ (by simp) _)

set_option maxHeartbeats 1000000 in
theorem rback_any (b : Bk) (u : Bool) (w : World) : Calls Try.prog 20 #[bv b, .bool u] w (Gv (bv (backb b u)) w) := by
  have HC := Bx.mk (rmay_any b)
  unfold Gv at *
  have HL := Bx.mk (lays_box2 w b)
  have HZ := Bx.mk (lays_zero w)
  have HM : Bx (backb b u = if u && b.tr && may b then { b with tr := false } else b) := ⟨rfl⟩
  generalize may b = x at *
  generalize backb b u = m at *
  obtain ⟨o, s, p, t⟩ := b
  go_enter Try.func20, Try.ntmps20
  go_wp2_with fail
  refine (HC.out _).mono ?_
  rintro e w2 ⟨rfl, hg⟩
  obtain ⟨c0, c1, c2, c3, f0⟩ := (HL.out _).grew hg
  obtain ⟨d0, d1, d2, d3, g0⟩ := (HZ.out _).grew hg
  have G := Bx.mk ((grew_two _ _ _).trans hg)
  clear hg HC HL HZ
  cases x with
  | false =>
    obtain rfl : m = ⟨o, s, p, t⟩ := by simpa using HM.out
    clear HM
    go_wp2_with fail
    refine bodyPost_ret (v := bv ⟨o, s, p, t⟩) (by simp [results, Try.results20, go_sem, d0, d1, d2, d3]) rfl ⟨rfl, ?_⟩
    repeat (first | exact G.out | exact Grew.refl _ | apply Grew.drew | apply Grew.alloc | refine Grew.setCell ?_ (by simp) _)
  | true =>
    cases u with
    | false =>
      obtain rfl : m = ⟨o, s, p, t⟩ := by simpa using HM.out
      clear HM
      go_wp2_with fail
      refine bodyPost_ret (v := bv ⟨o, s, p, t⟩) (by simp [results, Try.results20, go_sem, d0, d1, d2, d3]) rfl ⟨rfl, ?_⟩
      repeat (first | exact G.out | exact Grew.refl _ | apply Grew.drew | apply Grew.alloc | refine Grew.setCell ?_ (by simp) _)
    | true =>
      cases t with
      | false =>
        obtain rfl : m = ⟨o, s, p, false⟩ := by simpa using HM.out
        clear HM
        go_wp2_with fail
        refine bodyPost_ret (v := bv ⟨o, s, p, false⟩) (by simp [results, Try.results20, go_sem, d0, d1, d2, d3]) rfl ⟨rfl, ?_⟩
        repeat (first | exact G.out | exact Grew.refl _ | apply Grew.drew | apply Grew.alloc | refine Grew.setCell ?_ (by simp) _)
      | true =>
        obtain rfl : m = ⟨o, s, p, false⟩ := by simpa using HM.out
        clear HM
        go_wp2_with fail
        refine bodyPost_ret (v := bv ⟨o, s, p, false⟩) (by simp [results, Try.results20, go_sem, d0, d1, d2, d3]) rfl ⟨rfl, ?_⟩
        repeat (first | exact G.out | exact Grew.refl _ | apply Grew.drew | apply Grew.alloc | refine Grew.setCell ?_ (by simp) _)

end Go.Proofs.Ytcnlcjlipbpjoaa.bk
