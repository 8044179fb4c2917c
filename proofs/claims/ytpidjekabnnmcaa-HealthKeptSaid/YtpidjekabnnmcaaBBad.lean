/-
  Given for the seat's laws: the contracts of the project's Bad. No condition but those of the theorems.
-/
import Derived.Test.YtpidjekabnnmcaaBFns2
namespace Go.Proofs.Ytpidjekabnnmcaa.bk
open Go.RowKit mem
set_option linter.unusedVariables false
set_option linter.unusedSimpArgs false

def bw (b : Bk) (n c : Int) (t u : Bool) : Value := .tuple #[bv (badb b n c t u), .int .i64 (if badE b n c then 2 else 0)]
theorem bw_err {b : Bk} {n c : Int} (t u : Bool) (h : may b = false ∨ tk n = false ∨ ck c = false) : bw b n c t u = .tuple #[bv b, .int .i64 2] := by
  have e : badE b n c = true := by unfold badE; rcases h with h | h | h <;> rw [h] <;> simp
  unfold bw badb
  rw [e]
  rfl
theorem badE_ok {b : Bk} {n c : Int} (h : may b = true) (h2 : tk n = true) (h3 : ck c = true) : badE b n c = false := by unfold badE; rw [h, h2, h3]; rfl
theorem bw_ok {b : Bk} {n c : Int} (t u : Bool) (h : may b = true) (h2 : tk n = true) (h3 : ck c = true) : bw b n c t u = .tuple #[bv (if ends b t then ⟨true, n, min (2 * b.sp) (8 * c), false⟩ else if !t && u && cl b then ⟨true, n, c, false⟩ else b), .int .i64 0] := by
  unfold bw badb
  rw [badE_ok h h2 h3]
  rfl
theorem ends_may {b : Bk} {t : Bool} (h : ends b t = true) (hm : may b = true) : 1 ≤ b.sp ∧ b.sp ≤ 8000 := by
  have hc : cl b = false := by
    cases e : cl b with
    | false => rfl
    | true =>
      unfold cl at e
      rw [of_decide_eq_true e] at h
      simp [ends] at h
  exact (may_op hc hm).2.2.2
set_option maxHeartbeats 4000000 in
theorem bad_any (b : Bk) (n c : Int) (t u : Bool) (w : World) : Calls Try.prog 60 #[bv b, .int .i64 n, .int .i64 c, .bool t, .bool u] w (Gv (bw b n c t u) w) := by
  have HM := Bx.mk (may_any b)
  have HT := Bx.mk (isTick_any n)
  have HK := Bx.mk (isCool_any c)
  have HE := Bx.mk (ends_any b t)
  have HC := Bx.mk (closed_any b)
  have HO := Bx.mk opened_any
  unfold Gv at *
  have HL := Bx.mk (lays_box2 w b)
  have HZ := Bx.mk (lays_zero w)
  have e1 := Bx.mk (bw_err (b := b) (n := n) (c := c) t u)
  have e2 := Bx.mk (bw_ok (b := b) (n := n) (c := c) t u)
  have e3 := Bx.mk (ends_may (b := b) (t := t))
  have e4 := Bx.mk (ck_t (n := c))
  generalize ends b t = x at *
  generalize cl b = l at *
  generalize tk n = k at *
  generalize ck c = q at *
  generalize may b = y at *
  generalize bw b n c t u = m at *
  obtain ⟨o, s, p, tr⟩ := b
  go_enter Try.func60, Try.ntmps60
  go_wp2_with fail
  refine (HM.out _).mono ?_
  rintro e w2 ⟨rfl, hg⟩
  have L := (HL.out _).grew hg
  have Z := (HZ.out _).grew hg
  have G := Bx.mk ((grew_two _ _ _).trans hg)
  clear hg HM HL HZ
  have L' := Bx.mk L
  have Z' := Bx.mk Z
  obtain ⟨c0, c1, c2, c3, f0⟩ := L
  obtain ⟨d0, d1, d2, d3, g0⟩ := Z
  cases y with
  | false =>
    obtain rfl := e1.out (.inl rfl)
    go_wp2_with fail
    refine bodyPost_ret (v := .tuple #[bv ⟨o, s, p, tr⟩, .int .i64 2]) (by simp [results, Try.results60, go_sem, d0, d1, d2, d3]) rfl ⟨rfl, ?_⟩
    repeat (first | exact G.out | exact Grew.refl _ | apply Grew.drew | apply Grew.alloc | refine Grew.setCell ?_ (by simp) _)
  | true =>
    go_wp2_with fail
    refine (HT.out _).mono ?_
    rintro e w2 ⟨rfl, hg⟩
    have L := L'.out.grew hg
    have Z := Z'.out.grew hg
    have G := Bx.mk (G.out.trans hg)
    clear hg L' Z' HT c0 c1 c2 c3 f0 d0 d1 d2 d3 g0
    have L' := Bx.mk L
    have Z' := Bx.mk Z
    obtain ⟨c0, c1, c2, c3, f0⟩ := L
    obtain ⟨d0, d1, d2, d3, g0⟩ := Z
    cases k with
    | false =>
      obtain rfl := e1.out (.inr (.inl rfl))
      go_wp2_with fail
      refine bodyPost_ret (v := .tuple #[bv ⟨o, s, p, tr⟩, .int .i64 2]) (by simp [results, Try.results60, go_sem, d0, d1, d2, d3]) rfl ⟨rfl, ?_⟩
      repeat (first | exact G.out | exact Grew.refl _ | apply Grew.drew | apply Grew.alloc | refine Grew.setCell ?_ (by simp) _)
    | true =>
      go_wp2_with fail
      refine (HK.out _).mono ?_
      rintro e w2 ⟨rfl, hg⟩
      have L := L'.out.grew hg
      have Z := Z'.out.grew hg
      have G := Bx.mk (G.out.trans hg)
      clear hg L' Z' HK c0 c1 c2 c3 f0 d0 d1 d2 d3 g0
      have L' := Bx.mk L
      have Z' := Bx.mk Z
      obtain ⟨c0, c1, c2, c3, f0⟩ := L
      obtain ⟨d0, d1, d2, d3, g0⟩ := Z
      cases q with
      | false =>
        obtain rfl := e1.out (.inr (.inr rfl))
        go_wp2_with fail
        refine bodyPost_ret (v := .tuple #[bv ⟨o, s, p, tr⟩, .int .i64 2]) (by simp [results, Try.results60, go_sem, d0, d1, d2, d3]) rfl ⟨rfl, ?_⟩
        repeat (first | exact G.out | exact Grew.refl _ | apply Grew.drew | apply Grew.alloc | refine Grew.setCell ?_ (by simp) _)
      | true =>
        obtain rfl := e2.out (by trivial) (by trivial) (by trivial)
        clear e1 e2
        go_wp2_with fail
        refine (HE.out _).mono ?_
        rintro e w2 ⟨rfl, hg⟩
        have L := L'.out.grew hg
        have Z := Z'.out.grew hg
        have G := Bx.mk (G.out.trans hg)
        clear hg L' Z' HE c0 c1 c2 c3 f0 d0 d1 d2 d3 g0
        have L' := Bx.mk L
        have Z' := Bx.mk Z
        obtain ⟨c0, c1, c2, c3, f0⟩ := L
        obtain ⟨d0, d1, d2, d3, g0⟩ := Z
        cases x with
        | true =>
          obtain ⟨p1, p2⟩ := e3.out (by trivial) (by trivial)
          obtain ⟨q1, q2⟩ := e4.out.1 (by trivial)
          have w1 : IntKind.i64.wrap (2 * p) = 2 * p := by rw [IntKind.wrap_i64]; change 1 ≤ p at p1; change p ≤ 8000 at p2; omega
          have w2 : IntKind.i64.wrap (8 * c) = 8 * c := by rw [IntKind.wrap_i64]; omega
          clear e3 e4 p1 p2 q1 q2 HC
          by_cases hmin : 8 * c < 2 * p
          · have hm : min (2 * p) (8 * c) = 8 * c := by omega
            go_wp2_with fail
            refine (HO.out _ _ _).mono ?_
            rintro e w2 ⟨rfl, hg⟩
            have L := L'.out.grew hg
            have Z := Z'.out.grew hg
            have G := Bx.mk (G.out.trans hg)
            clear hg L' Z' HO c0 c1 c2 c3 f0 d0 d1 d2 d3 g0
            have L' := Bx.mk L
            have Z' := Bx.mk Z
            obtain ⟨c0, c1, c2, c3, f0⟩ := L
            obtain ⟨d0, d1, d2, d3, g0⟩ := Z
            go_wp2_with fail
            refine bodyPost_ret (v := .tuple #[bv ⟨true, n, 8 * c, false⟩, .int .i64 0]) (by simp [results, Try.results60, go_sem, d0, d1, d2, d3]) rfl ⟨rfl, ?_⟩
            repeat (first | exact G.out | exact Grew.refl _ | apply Grew.drew | apply Grew.alloc | refine Grew.setCell ?_ (by simp) _)
          · have hm : min (2 * p) (8 * c) = 2 * p := by omega
            go_wp2_with fail
            refine (HO.out _ _ _).mono ?_
            rintro e w2 ⟨rfl, hg⟩
            have L := L'.out.grew hg
            have Z := Z'.out.grew hg
            have G := Bx.mk (G.out.trans hg)
            clear hg L' Z' HO c0 c1 c2 c3 f0 d0 d1 d2 d3 g0
            have L' := Bx.mk L
            have Z' := Bx.mk Z
            obtain ⟨c0, c1, c2, c3, f0⟩ := L
            obtain ⟨d0, d1, d2, d3, g0⟩ := Z
            go_wp2_with fail
            refine bodyPost_ret (v := .tuple #[bv ⟨true, n, 2 * p, false⟩, .int .i64 0]) (by simp [results, Try.results60, go_sem, d0, d1, d2, d3]) rfl ⟨rfl, ?_⟩
            repeat (first | exact G.out | exact Grew.refl _ | apply Grew.drew | apply Grew.alloc | refine Grew.setCell ?_ (by simp) _)
        | false =>
          clear e3 e4
          cases t with
          | true =>
            go_wp2_with fail
            refine bodyPost_ret (v := .tuple #[bv ⟨o, s, p, tr⟩, .int .i64 0]) (by simp [results, Try.results60, go_sem, d0, d1, d2, d3]) rfl ⟨rfl, ?_⟩
            repeat (first | exact G.out | exact Grew.refl _ | apply Grew.drew | apply Grew.alloc | refine Grew.setCell ?_ (by simp) _)
          | false =>
            cases u with
            | false =>
              go_wp2_with fail
              refine bodyPost_ret (v := .tuple #[bv ⟨o, s, p, tr⟩, .int .i64 0]) (by simp [results, Try.results60, go_sem, d0, d1, d2, d3]) rfl ⟨rfl, ?_⟩
              repeat (first | exact G.out | exact Grew.refl _ | apply Grew.drew | apply Grew.alloc | refine Grew.setCell ?_ (by simp) _)
            | true =>
              go_wp2_with fail
              refine (HC.out _).mono ?_
              rintro e w2 ⟨rfl, hg⟩
              have L := L'.out.grew hg
              have Z := Z'.out.grew hg
              have G := Bx.mk (G.out.trans hg)
              clear hg L' Z' HC c0 c1 c2 c3 f0 d0 d1 d2 d3 g0
              have L' := Bx.mk L
              have Z' := Bx.mk Z
              obtain ⟨c0, c1, c2, c3, f0⟩ := L
              obtain ⟨d0, d1, d2, d3, g0⟩ := Z
              cases l with
              | false =>
                go_wp2_with fail
                refine bodyPost_ret (v := .tuple #[bv ⟨o, s, p, tr⟩, .int .i64 0]) (by simp [results, Try.results60, go_sem, d0, d1, d2, d3]) rfl ⟨rfl, ?_⟩
                repeat (first | exact G.out | exact Grew.refl _ | apply Grew.drew | apply Grew.alloc | refine Grew.setCell ?_ (by simp) _)
              | true =>
                go_wp2_with fail
                refine (HO.out _ _ _).mono ?_
                rintro e w2 ⟨rfl, hg⟩
                have L := L'.out.grew hg
                have Z := Z'.out.grew hg
                have G := Bx.mk (G.out.trans hg)
                clear hg L' Z' HO c0 c1 c2 c3 f0 d0 d1 d2 d3 g0
                have L' := Bx.mk L
                have Z' := Bx.mk Z
                obtain ⟨c0, c1, c2, c3, f0⟩ := L
                obtain ⟨d0, d1, d2, d3, g0⟩ := Z
                go_wp2_with fail
                refine bodyPost_ret (v := .tuple #[bv ⟨true, n, c, false⟩, .int .i64 0]) (by simp [results, Try.results60, go_sem, d0, d1, d2, d3]) rfl ⟨rfl, ?_⟩
                repeat (first | exact G.out | exact Grew.refl _ | apply Grew.drew | apply Grew.alloc | refine Grew.setCell ?_ (by simp) _)
end Go.Proofs.Ytpidjekabnnmcaa.bk
