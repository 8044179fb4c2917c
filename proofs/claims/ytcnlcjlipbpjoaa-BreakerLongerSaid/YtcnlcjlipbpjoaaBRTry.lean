/-
  Given for the seat's laws: the contracts of the document's own Try. No condition but those of the theorems.
-/
import Derived.Test.YtcnlcjlipbpjoaaBRef
import Derived.Test.YtcnlcjlipbpjoaaBTry
namespace Go.Proofs.Ytcnlcjlipbpjoaa.bk
open Go.RowKit mem
set_option linter.unusedVariables false
set_option linter.unusedSimpArgs false

theorem st_012 (b : Bk) (n : Int) : (st b n = 0 ∧ b.tr = false) ∨ st b n = 1 ∨ st b n = 2 := by
  cases e : cl b with
  | true =>
    refine .inl ⟨st_cl e n, ?_⟩
    unfold cl at e
    rw [of_decide_eq_true e]
  | false =>
    unfold st
    rw [e]
    by_cases h : (may b && !decide (n < b.si + b.sp)) = true
    · right; right; rw [h]; rfl
    · right; left; simp at h; simp; exact h
theorem tv_cl {b : Bk} {n : Int} (h : tk n = true) (h2 : lets b n = true) (h3 : st b n = 0) (h4 : b.tr = false) : tv b n = .tuple #[bv b, .bool false, .int .i64 0] := by
  rw [tv_ok h h2, h3]
  obtain ⟨o, s, p, t⟩ := b
  cases h4
  rfl
theorem tv_half {b : Bk} {n : Int} (h : tk n = true) (h2 : lets b n = true) (h3 : st b n = 2) : tv b n = .tuple #[bv ⟨b.op, b.si, b.sp, true⟩, .bool true, .int .i64 0] := by
  rw [tv_ok h h2, h3]
  rfl
theorem lets_st {b : Bk} {n : Int} (h : lets b n = true) : st b n ≠ 1 := by
  intro e
  unfold lets at h
  rw [e] at h
  cases h
set_option maxHeartbeats 2000000 in
theorem rtry_any (b : Bk) (n : Int) (w : World) : Calls Try.prog 8 #[bv b, .int .i64 n] w (Gv (tv b n) w) := by
  have HM := Bx.mk (rmay_any b)
  have HC := Bx.mk (rlets_any b n)
  have HS := Bx.mk (rstate_any b n)
  unfold Gv at *
  have HL := Bx.mk (lays_box2 w b)
  have HZ := Bx.mk (lays_zero w)
  have e0 := Bx.mk (fun h => tv_err (b := b) (n := n) (.inr (lets_ill h n)))
  have e1 := Bx.mk (tv_err (b := b) (n := n))
  have e2 := Bx.mk (tv_cl (b := b) (n := n))
  have e3 := Bx.mk (tv_half (b := b) (n := n))
  have e4 := Bx.mk (st_012 b n)
  have e5 := Bx.mk (lets_st (b := b) (n := n))
  have k0 := Bx.mk (tk_n (n := n))
  have k1 := Bx.mk (tk_g (n := n))
  have k2 := Bx.mk (tk_ok (n := n))
  generalize st b n = x at *
  generalize lets b n = l at *
  generalize tk n = k at *
  generalize tv b n = m at *
  generalize may b = y at *
  obtain ⟨o, s, p, t⟩ := b
  go_enter Try.func8, Try.ntmps8
  go_wp2_with fail
  refine (HM.out _).mono ?_
  rintro e w2 ⟨rfl, hg⟩
  have L := (HL.out _).grew hg
  have Z := (HZ.out _).grew hg
  have G := Bx.mk ((grew_two _ _ _).trans hg)
  clear hg HM HL HZ
  have L' := Bx.mk L
  have Z' := Bx.mk Z
  obtain ⟨c0, c1, c2, c3, f0⟩ := L
  obtain ⟨d0, d1, d2, d3, g0⟩ := Z
  cases y with
  | false =>
    obtain rfl := e0.out rfl
    go_wp2_with fail
    refine bodyPost_ret (v := .tuple #[bv ⟨o, s, p, t⟩, .bool false, .int .i64 2]) (by simp [results, Try.results8, go_sem, d0, d1, d2, d3]) rfl ⟨rfl, ?_⟩
    repeat (first | exact G.out | exact Grew.refl _ | apply Grew.drew | apply Grew.alloc | refine Grew.setCell ?_ (by simp) _)
  | true =>
    by_cases h1 : n < 0
    · obtain rfl := e1.out (.inl (k0.out h1))
      go_wp2_with fail
      refine bodyPost_ret (v := .tuple #[bv ⟨o, s, p, t⟩, .bool false, .int .i64 2]) (by simp [results, Try.results8, go_sem, d0, d1, d2, d3]) rfl ⟨rfl, ?_⟩
      repeat (first | exact G.out | exact Grew.refl _ | apply Grew.drew | apply Grew.alloc | refine Grew.setCell ?_ (by simp) _)
    · by_cases h2 : 1099511619775 < n
      · obtain rfl := e1.out (.inl (k1.out h2))
        go_wp2_with fail
        refine bodyPost_ret (v := .tuple #[bv ⟨o, s, p, t⟩, .bool false, .int .i64 2]) (by simp [results, Try.results8, go_sem, d0, d1, d2, d3]) rfl ⟨rfl, ?_⟩
        repeat (first | exact G.out | exact Grew.refl _ | apply Grew.drew | apply Grew.alloc | refine Grew.setCell ?_ (by simp) _)
      · obtain rfl := k2.out (by omega) (by omega)
        go_wp2_with fail
        refine (HC.out _).mono ?_
        rintro e w2 ⟨rfl, hg⟩
        have L := L'.out.grew hg
        have Z := Z'.out.grew hg
        have G := Bx.mk (G.out.trans hg)
        clear hg L' Z' HC c0 c1 c2 c3 f0 d0 d1 d2 d3 g0
        have L' := Bx.mk L
        have Z' := Bx.mk Z
        obtain ⟨c0, c1, c2, c3, f0⟩ := L
        obtain ⟨d0, d1, d2, d3, g0⟩ := Z
        cases l with
        | false =>
          obtain rfl := e1.out (.inr rfl)
          go_wp2_with fail
          refine bodyPost_ret (v := .tuple #[bv ⟨o, s, p, t⟩, .bool false, .int .i64 2]) (by simp [results, Try.results8, go_sem, d0, d1, d2, d3]) rfl ⟨rfl, ?_⟩
          repeat (first | exact G.out | exact Grew.refl _ | apply Grew.drew | apply Grew.alloc | refine Grew.setCell ?_ (by simp) _)
        | true =>
          go_wp2_with fail
          refine (HS.out _).mono ?_
          rintro e w2 ⟨rfl, hg⟩
          have L := L'.out.grew hg
          have Z := Z'.out.grew hg
          have G := Bx.mk (G.out.trans hg)
          clear hg L' Z' HS c0 c1 c2 c3 f0 d0 d1 d2 d3 g0
          have L' := Bx.mk L
          have Z' := Bx.mk Z
          obtain ⟨c0, c1, c2, c3, f0⟩ := L
          obtain ⟨d0, d1, d2, d3, g0⟩ := Z
          rcases e4.out with ⟨rfl, h4⟩ | rfl | rfl
          · obtain rfl : t = false := h4
            obtain rfl := e2.out (by trivial) (by trivial) (by trivial) (by trivial)
            clear e0 e1 e2 e3 e4 e5 k0 k1 k2
            go_wp2_with fail
            refine bodyPost_ret (v := .tuple #[bv ⟨o, s, p, false⟩, .bool false, .int .i64 0]) (by simp [results, Try.results8, go_sem, d0, d1, d2, d3]) rfl ⟨rfl, ?_⟩
            repeat (first | exact G.out | exact Grew.refl _ | apply Grew.drew | apply Grew.alloc | refine Grew.setCell ?_ (by simp) _)
          · exact absurd rfl (e5.out (by trivial))
          · obtain rfl := e3.out (by trivial) (by trivial) (by trivial)
            clear e0 e1 e2 e3 e4 e5 k0 k1 k2
            go_wp2_with fail
            refine bodyPost_ret (v := .tuple #[bv ⟨o, s, p, true⟩, .bool true, .int .i64 0]) (by simp [results, Try.results8, go_sem, d0, d1, d2, d3]) rfl ⟨rfl, ?_⟩
            repeat (first | exact G.out | exact Grew.refl _ | apply Grew.drew | apply Grew.alloc | refine Grew.setCell ?_ (by simp) _)

end Go.Proofs.Ytcnlcjlipbpjoaa.bk
