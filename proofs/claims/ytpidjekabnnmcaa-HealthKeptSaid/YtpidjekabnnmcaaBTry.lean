/-
  Given for the seat's laws: the contracts of the project's Try. No condition but those of the theorems.
-/
import Derived.Test.YtpidjekabnnmcaaBFns2
namespace Go.Proofs.Ytpidjekabnnmcaa.bk
open Go.RowKit mem
set_option linter.unusedVariables false
set_option linter.unusedSimpArgs false

def ec (b : Bool) : Int := if b then 2 else 0
def tv (b : Bk) (n : Int) : Value := .tuple #[bv (tryb b n), .bool (tryt b n), .int .i64 (ec (tryE b n))]
theorem tv_err {b : Bk} {n : Int} (h : tk n = false ∨ lets b n = false) : tv b n = .tuple #[bv b, .bool false, .int .i64 2] := by
  have e : tryE b n = true := by unfold tryE; rcases h with h | h <;> rw [h] <;> simp
  unfold tv tryt tryb
  rw [e]
  rfl
theorem tv_ok {b : Bk} {n : Int} (h : tk n = true) (h2 : lets b n = true) : tv b n = .tuple #[bv ⟨b.op, b.si, b.sp, decide (st b n = 2)⟩, .bool (decide (st b n = 2)), .int .i64 0] := by
  have e : tryE b n = false := by unfold tryE; rw [h, h2]; rfl
  unfold tv tryt tryb
  rw [e]
  rfl
set_option maxHeartbeats 2000000 in
theorem try_any (b : Bk) (n : Int) (w : World) : Calls Try.prog 26 #[bv b, .int .i64 n] w (Gv (tv b n) w) := by
  have HT := Bx.mk (isTick_any n)
  have HC := Bx.mk (lets_any b n)
  have HS := Bx.mk (state_any b n)
  unfold Gv at *
  have HL := Bx.mk (lays_box2 w b)
  have HZ := Bx.mk (lays_zero w)
  have e1 := Bx.mk (tv_err (b := b) (n := n))
  have e2 := Bx.mk (tv_ok (b := b) (n := n))
  generalize st b n = x at *
  generalize lets b n = l at *
  generalize tk n = k at *
  generalize tv b n = m at *
  obtain ⟨o, s, p, t⟩ := b
  go_enter Try.func26, Try.ntmps26
  go_wp2_with fail
  refine (HT.out _).mono ?_
  rintro e w2 ⟨rfl, hg⟩
  have L := (HL.out _).grew hg
  have Z := (HZ.out _).grew hg
  have G0 := Bx.mk ((grew_two _ _ _).trans hg)
  clear hg HT HL HZ
  cases k with
  | false =>
    obtain rfl := e1.out (.inl rfl)
    obtain ⟨c0, c1, c2, c3, f0⟩ := L
    obtain ⟨d0, d1, d2, d3, g0⟩ := Z
    have G := G0
    go_wp2_with fail
    refine bodyPost_ret (v := .tuple #[bv ⟨o, s, p, t⟩, .bool false, .int .i64 2]) (by simp [results, Try.results26, go_sem, d0, d1, d2, d3]) rfl ⟨rfl, ?_⟩
    repeat (first | exact G.out | exact Grew.refl _ | apply Grew.drew | apply Grew.alloc | refine Grew.setCell ?_ (by simp) _)
  | true =>
    have L' := Bx.mk L
    have Z' := Bx.mk Z
    obtain ⟨c0, c1, c2, c3, f0⟩ := L
    go_wp2_with fail
    refine (HC.out _).mono ?_
    rintro e w3 ⟨rfl, hg⟩
    have L := L'.out.grew hg
    have Z := Z'.out.grew hg
    have G := Bx.mk (G0.out.trans hg)
    clear hg HC c0 c1 c2 c3 f0 L' Z' G0
    have L' := Bx.mk L
    have Z' := Bx.mk Z
    obtain ⟨c0, c1, c2, c3, f0⟩ := L
    obtain ⟨d0, d1, d2, d3, g0⟩ := Z
    cases l with
    | false =>
      obtain rfl := e1.out (.inr rfl)
      go_wp2_with fail
      refine bodyPost_ret (v := .tuple #[bv ⟨o, s, p, t⟩, .bool false, .int .i64 2]) (by simp [results, Try.results26, go_sem, d0, d1, d2, d3]) rfl ⟨rfl, ?_⟩
      repeat (first | exact G.out | exact Grew.refl _ | apply Grew.drew | apply Grew.alloc | refine Grew.setCell ?_ (by simp) _)
    | true =>
      obtain rfl := e2.out (by trivial) (by trivial)
      clear d0 d1 d2 d3 g0
      go_wp2_with fail
      refine (HS.out _).mono ?_
      rintro e w4 ⟨rfl, hg⟩
      obtain ⟨c0, c1, c2, c3, f0⟩ := L'.out.grew hg
      obtain ⟨d0, d1, d2, d3, g0⟩ := Z'.out.grew hg
      have G := Bx.mk (G.out.trans hg)
      clear hg HS L' Z'
      go_wp2_with fail
      go_region
      all_goals
        go_wp2_with fail
        refine bodyPost_ret (v := .tuple #[bv ⟨o, s, p, x == 2⟩, .bool (x == 2), .int .i64 0]) (by simp [results, Try.results26, go_sem, d0, d1, d2, d3]) rfl ⟨rfl, ?_⟩
        repeat (first | exact G.out | exact Grew.refl _ | apply Grew.drew | apply Grew.alloc | refine Grew.setCell ?_ (by simp) _)

end Go.Proofs.Ytpidjekabnnmcaa.bk
