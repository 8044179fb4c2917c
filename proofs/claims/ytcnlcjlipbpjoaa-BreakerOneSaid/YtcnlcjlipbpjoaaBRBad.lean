/-
  Given for the seat's laws: the contracts of the document's own Bad. No condition but those of the theorems.
-/
import Derived.Test.YtcnlcjlipbpjoaaBRef
import Derived.Test.YtcnlcjlipbpjoaaBBad
namespace Go.Proofs.Ytcnlcjlipbpjoaa.bk
open Go.RowKit mem
set_option linter.unusedVariables false
set_option linter.unusedSimpArgs false

theorem may_tr {b : Bk} (hm : may b = true) (h : b.tr = true) : 1 ≤ b.sp ∧ b.sp ≤ 8000 := ends_may (t := true) (by unfold ends; rw [h, hm]; rfl) hm
theorem bw_end {b : Bk} {n c : Int} {t : Bool} (u : Bool) (h : may b = true) (h2 : tk n = true) (h3 : ck c = true) (h4 : b.tr = true) (h5 : t = true) : bw b n c t u = .tuple #[bv ⟨true, n, min (2 * b.sp) (8 * c), false⟩, .int .i64 0] := by
  subst h5
  rw [bw_ok _ _ h h2 h3]
  have e : ends b true = true := by unfold ends; rw [h, h4]; rfl
  rw [e]
  rfl
theorem bw_same {b : Bk} {n c : Int} (t u : Bool) (h : may b = true) (h2 : tk n = true) (h3 : ck c = true) (h4 : (t = true ∧ b.tr = false) ∨ (t = false ∧ (b.op = true ∨ u = false))) : bw b n c t u = .tuple #[bv b, .int .i64 0] := by
  rw [bw_ok _ _ h h2 h3]
  have e : ends b t = false := by unfold ends; rcases h4 with ⟨h4, h5⟩ | ⟨h4, h5⟩ <;> rw [h4] <;> simp [*]
  have e2 : (!t && u && cl b) = false := by
    rcases h4 with ⟨h4, h5⟩ | ⟨h4, h5 | h5⟩
    · rw [h4]; rfl
    · rw [op_cl h5]; simp
    · rw [h5]; simp
  rw [e, e2]
  rfl
theorem bw_trip {b : Bk} {n c : Int} {t u : Bool} (h : may b = true) (h2 : tk n = true) (h3 : ck c = true) (h4 : b.op = false) (h5 : t = false) (h6 : u = true) : bw b n c t u = .tuple #[bv ⟨true, n, c, false⟩, .int .i64 0] := by
  subst h5
  subst h6
  rw [bw_ok _ _ h h2 h3, cl_op h h4]
  rfl
set_option maxHeartbeats 4000000 in
theorem rbad_any (b : Bk) (n c : Int) (t u : Bool) (w : World) : Calls Try.prog 16 #[bv b, .int .i64 n, .int .i64 c, .bool t, .bool u] w (Gv (bw b n c t u) w) := by
  have HM := Bx.mk (rmay_any b)
  unfold Gv at *
  have HL := Bx.mk (lays_box2 w b)
  have HZ := Bx.mk (lays_zero w)
  have e1 := Bx.mk (bw_err (b := b) (n := n) (c := c) t u)
  have e2 := Bx.mk (bw_same (b := b) (n := n) (c := c) t u)
  have e3 := Bx.mk (bw_end (b := b) (n := n) (c := c) (t := t) u)
  have e4 := Bx.mk (bw_trip (b := b) (n := n) (c := c) (t := t) (u := u))
  have e5 := Bx.mk (may_tr (b := b))
  have k0 := Bx.mk (tk_n (n := n))
  have k1 := Bx.mk (tk_g (n := n))
  have k2 := Bx.mk (tk_ok (n := n))
  have q0 := Bx.mk (ck_n (n := c))
  have q1 := Bx.mk (ck_g (n := c))
  have q2 := Bx.mk (ck_ok (n := c))
  generalize bw b n c t u = m at *
  generalize tk n = k at *
  generalize ck c = q at *
  generalize may b = y at *
  obtain ⟨o, s, p, tr⟩ := b
  go_enter Try.func16, Try.ntmps16
  go_wp2_with fail
  refine (HM.out _).mono ?_
  rintro e w2 ⟨rfl, hg⟩
  have L := (HL.out _).grew hg
  have Z := (HZ.out _).grew hg
  have G := Bx.mk ((grew_two _ _ _).trans hg)
  clear hg HM HL HZ
  obtain ⟨c0, c1, c2, c3, f0⟩ := L
  obtain ⟨d0, d1, d2, d3, g0⟩ := Z
  cases y with
  | false =>
    obtain rfl := e1.out (.inl rfl)
    clear e1 e2 e3 e4 e5
    go_wp2_with fail
    refine bodyPost_ret (v := .tuple #[bv ⟨o, s, p, tr⟩, .int .i64 2]) (by simp [results, Try.results16, go_sem, d0, d1, d2, d3]) rfl ⟨rfl, ?_⟩
    repeat (first | exact G.out | exact Grew.refl _ | apply Grew.drew | apply Grew.alloc | refine Grew.setCell ?_ (by simp) _)
  | true =>
    by_cases h1 : n < 0
    · obtain rfl := e1.out (.inr (.inl (k0.out h1)))
      clear e1 e2 e3 e4 e5
      go_wp2_with fail
      refine bodyPost_ret (v := .tuple #[bv ⟨o, s, p, tr⟩, .int .i64 2]) (by simp [results, Try.results16, go_sem, d0, d1, d2, d3]) rfl ⟨rfl, ?_⟩
      repeat (first | exact G.out | exact Grew.refl _ | apply Grew.drew | apply Grew.alloc | refine Grew.setCell ?_ (by simp) _)
    · by_cases h2 : 1099511619775 < n
      · obtain rfl := e1.out (.inr (.inl (k1.out h2)))
        clear e1 e2 e3 e4 e5
        go_wp2_with fail
        refine bodyPost_ret (v := .tuple #[bv ⟨o, s, p, tr⟩, .int .i64 2]) (by simp [results, Try.results16, go_sem, d0, d1, d2, d3]) rfl ⟨rfl, ?_⟩
        repeat (first | exact G.out | exact Grew.refl _ | apply Grew.drew | apply Grew.alloc | refine Grew.setCell ?_ (by simp) _)
      · by_cases h3 : c < 1
        · obtain rfl := e1.out (.inr (.inr (q0.out h3)))
          clear e1 e2 e3 e4 e5
          go_wp2_with fail
          refine bodyPost_ret (v := .tuple #[bv ⟨o, s, p, tr⟩, .int .i64 2]) (by simp [results, Try.results16, go_sem, d0, d1, d2, d3]) rfl ⟨rfl, ?_⟩
          repeat (first | exact G.out | exact Grew.refl _ | apply Grew.drew | apply Grew.alloc | refine Grew.setCell ?_ (by simp) _)
        · by_cases h4 : 1000 < c
          · obtain rfl := e1.out (.inr (.inr (q1.out h4)))
            clear e1 e2 e3 e4 e5
            go_wp2_with fail
            refine bodyPost_ret (v := .tuple #[bv ⟨o, s, p, tr⟩, .int .i64 2]) (by simp [results, Try.results16, go_sem, d0, d1, d2, d3]) rfl ⟨rfl, ?_⟩
            repeat (first | exact G.out | exact Grew.refl _ | apply Grew.drew | apply Grew.alloc | refine Grew.setCell ?_ (by simp) _)
          · obtain rfl := k2.out (by omega) (by omega)
            obtain rfl := q2.out (by omega) (by omega)
            have w2 : IntKind.i64.wrap (8 * c) = 8 * c := by rw [IntKind.wrap_i64]; omega
            cases t with
            | true =>
              cases tr with
              | false =>
                obtain rfl := e2.out rfl rfl rfl (.inl ⟨rfl, rfl⟩)
                clear e1 e2 e3 e4 e5
                go_wp2_with fail
                refine bodyPost_ret (v := .tuple #[bv ⟨o, s, p, false⟩, .int .i64 0]) (by simp [results, Try.results16, go_sem, d0, d1, d2, d3]) rfl ⟨rfl, ?_⟩
                repeat (first | exact G.out | exact Grew.refl _ | apply Grew.drew | apply Grew.alloc | refine Grew.setCell ?_ (by simp) _)
              | true =>
                obtain ⟨p1, p2⟩ := e5.out rfl rfl
                have w1 : IntKind.i64.wrap (2 * p) = 2 * p := by rw [IntKind.wrap_i64]; change 1 ≤ p at p1; change p ≤ 8000 at p2; omega
                by_cases hmin : 8 * c < 2 * p
                · have hm : min (2 * p) (8 * c) = 8 * c := by omega
                  obtain rfl := (e3.out rfl rfl rfl rfl rfl).trans (by rw [hm])
                  clear e1 e2 e3 e4 e5 p1 p2
                  go_wp2_with fail
                  refine bodyPost_ret (v := .tuple #[bv ⟨true, n, 8 * c, false⟩, .int .i64 0]) (by simp [results, Try.results16, go_sem, d0, d1, d2, d3]) rfl ⟨rfl, ?_⟩
                  repeat (first | exact G.out | exact Grew.refl _ | apply Grew.drew | apply Grew.alloc | refine Grew.setCell ?_ (by simp) _)
                · have hm : min (2 * p) (8 * c) = 2 * p := by omega
                  obtain rfl := (e3.out rfl rfl rfl rfl rfl).trans (by rw [hm])
                  clear e1 e2 e3 e4 e5 p1 p2
                  go_wp2_with fail
                  refine bodyPost_ret (v := .tuple #[bv ⟨true, n, 2 * p, false⟩, .int .i64 0]) (by simp [results, Try.results16, go_sem, d0, d1, d2, d3]) rfl ⟨rfl, ?_⟩
                  repeat (first | exact G.out | exact Grew.refl _ | apply Grew.drew | apply Grew.alloc | refine Grew.setCell ?_ (by simp) _)
            | false =>
              cases o with
              | true =>
                obtain rfl := e2.out rfl rfl rfl (.inr ⟨rfl, .inl rfl⟩)
                clear e1 e2 e3 e4 e5
                go_wp2_with fail
                refine bodyPost_ret (v := .tuple #[bv ⟨true, s, p, tr⟩, .int .i64 0]) (by simp [results, Try.results16, go_sem, d0, d1, d2, d3]) rfl ⟨rfl, ?_⟩
                repeat (first | exact G.out | exact Grew.refl _ | apply Grew.drew | apply Grew.alloc | refine Grew.setCell ?_ (by simp) _)
              | false =>
                cases u with
                | false =>
                  obtain rfl := e2.out rfl rfl rfl (.inr ⟨rfl, .inr rfl⟩)
                  clear e1 e2 e3 e4 e5
                  go_wp2_with fail
                  refine bodyPost_ret (v := .tuple #[bv ⟨false, s, p, tr⟩, .int .i64 0]) (by simp [results, Try.results16, go_sem, d0, d1, d2, d3]) rfl ⟨rfl, ?_⟩
                  repeat (first | exact G.out | exact Grew.refl _ | apply Grew.drew | apply Grew.alloc | refine Grew.setCell ?_ (by simp) _)
                | true =>
                  obtain rfl := e4.out rfl rfl rfl rfl rfl rfl
                  clear e1 e2 e3 e4 e5
                  go_wp2_with fail
                  refine bodyPost_ret (v := .tuple #[bv ⟨true, n, c, false⟩, .int .i64 0]) (by simp [results, Try.results16, go_sem, d0, d1, d2, d3]) rfl ⟨rfl, ?_⟩
                  repeat (first | exact G.out | exact Grew.refl _ | apply Grew.drew | apply Grew.alloc | refine Grew.setCell ?_ (by simp) _)

end Go.Proofs.Ytcnlcjlipbpjoaa.bk
