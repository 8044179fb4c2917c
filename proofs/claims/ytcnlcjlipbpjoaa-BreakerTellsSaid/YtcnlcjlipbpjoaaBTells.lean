/-
  Given for the seat's laws: the walk of the law BreakerTells. No condition but those of the theorems.
-/
import Derived.Test.YtcnlcjlipbpjoaaBLaw
import Derived.Deep.RegionHeld3
namespace Go.Proofs.Ytcnlcjlipbpjoaa.bk
open Go.RowKit mem
open Go.Sort (grow)
set_option linter.unusedVariables false

theorem st_wrap (b : Bk) (n : Int) : IntKind.i64.wrap (st b n) = st b n := by
  have h : st b n = 0 ∨ st b n = 1 ∨ st b n = 2 := by unfold st; split <;> (try split) <;> simp
  rcases h with h | h | h <;> rw [h] <;> rfl

set_option maxHeartbeats 4000000 in
set_option maxRecDepth 100000 in
theorem tells_any (b : Bk) (n : Int) (w : World) : Calls Try.prog 3 #[bv b, .int .i64 n] w (True_ w) := by
  have HT := Bx.mk (try_any b n)
  have HRT := Bx.mk (rtry_any b n)
  have HM := Bx.mk (may_any b)
  have HRM := Bx.mk (rmay_any b)
  have HS := Bx.mk (state_any b n)
  have HRS := Bx.mk (rstate_any b n)
  have HL := Bx.mk (lets_any b n)
  have HRL := Bx.mk (rlets_any b n)
  have hst := st_wrap b n
  have HB := Bx.mk (lays_box w b)
  have hmix : Try.prog.follows .mixedOrders = true := by kernel_rfl
  unfold Gv at *
  unfold tv at *
  unfold True_
  generalize st b n = x at *
  generalize lets b n = l at *
  generalize may b = y at *
  generalize tryb b n = z at *
  generalize tryt b n = zt at *
  generalize ec (tryE b n) = ze at *
  obtain ⟨o, s, p, t⟩ := b
  go_enter Try.func3, Try.ntmps3
  go_wp2_with fail
  refine (HT.out _).mono ?_
  rintro e w2 ⟨rfl, hg⟩
  have L := HB.out.grew hg
  have G := Bx.mk ((grew_box _ _).trans hg)
  clear hg HB HT
  have L' := Bx.mk L
  obtain ⟨c0, c1, c2, c3, f0⟩ := L
  have q0 := fun o => (L'.out.new o).c0
  have q1 := fun o => (L'.out.new o).c1
  have q2 := fun o => (L'.out.new o).c2
  have q3 := fun o => (L'.out.new o).c3
  go_wp2_with fail
  refine (HRT.out _).mono ?_
  rintro e w3 ⟨rfl, hg⟩
  have L := (L'.out.new _).grew hg
  have Z := (lays_box w2 z).grew hg
  have G := Bx.mk ((G.out.alloc _).trans hg)
  clear hg HRT c0 c1 c2 c3 f0 q0 q1 q2 q3 L'
  have L' := Bx.mk L
  have Z' := Bx.mk Z
  obtain ⟨c0, c1, c2, c3, f0⟩ := L
  obtain ⟨d0, d1, d2, d3, g0⟩ := Z
  have q0 := fun o => (L'.out.new o).c0
  have q1 := fun o => (L'.out.new o).c1
  have q2 := fun o => (L'.out.new o).c2
  have q3 := fun o => (L'.out.new o).c3
  go_wp2_with fail
  clear c0 c1 c2 c3 f0 d0 d1 d2 d3 g0 q0 q1 q2 q3
  refine wp_at (fun W => LaysG W w.heap.size ⟨o, s, p, t⟩ ∧ LaysG W w2.heap.size z ∧ LaysG W w3.heap.size z ∧ Bx (Grew w W)) ⟨(L'.out.new _).g, (Z'.out.new _).g, (lays_box w3 z).g, ⟨G.out.alloc _⟩⟩ ?_
  clear L' Z' G
  rintro W ⟨⟨L⟩, ⟨Z⟩, ⟨Y⟩, G⟩
  have c0 := fun n os => (L n os).c0
  have c1 := fun n os => (L n os).c1
  have c2 := fun n os => (L n os).c2
  have c3 := fun n os => (L n os).c3
  have d0 := fun n os => (Z n os).c0
  have d1 := fun n os => (Z n os).c1
  have d2 := fun n os => (Z n os).c2
  have d3 := fun n os => (Z n os).c3
  have e0 := fun n os => (Y n os).c0
  have e1 := fun n os => (Y n os).c1
  have e2 := fun n os => (Y n os).c2
  have e3 := fun n os => (Y n os).c3
  clear L Z Y
  go_quiet_grown (first
    | (go_at_call 9; exact grown_call HM.out _ _ _)
    | (go_at_call 10; exact grown_call HRM.out _ _ _)
    | (go_at_call 11; exact grown_call HS.out _ _ _)
    | (go_at_call 12; exact grown_call HRS.out _ _ _)
    | (go_at_call 13; exact grown_call HL.out _ _ _)
    | (go_at_call 14; exact grown_call HRL.out _ _ _))
  have G2 := Bx.mk (G.out.trans (grew_grow W nq osq))
  generalize grow (W.drewN nq) osq = W2 at *
  clear c0 c1 c2 c3 d0 d1 d2 d3 e0 e1 e2 e3
  go_wp2_with fail
  go_ret
  exact ⟨rfl, G2.out.below⟩
end Go.Proofs.Ytcnlcjlipbpjoaa.bk
