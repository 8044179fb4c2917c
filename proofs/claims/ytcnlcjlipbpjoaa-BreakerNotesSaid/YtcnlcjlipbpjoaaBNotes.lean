/-
  Given for the seat's laws: the walk of the law BreakerNotes. No condition but those of the theorems.
-/
import Derived.Test.YtcnlcjlipbpjoaaBLaw
import Derived.Deep.RegionHeld3
namespace Go.Proofs.Ytcnlcjlipbpjoaa.bk
open Go.RowKit mem
open Go.Sort (grow)
set_option linter.unusedVariables false

set_option maxHeartbeats 4000000 in
set_option maxRecDepth 100000 in
theorem notes_any (b : Bk) (n c : Int) (t u : Bool) (w : World) : Calls Try.prog 4 #[bv b, .int .i64 n, .int .i64 c, .bool t, .bool u] w (True_ w) := by
  have HT := Bx.mk (bad_any b n c t u)
  have HRT := Bx.mk (rbad_any b n c t u)
  have HM := Bx.mk (good_any b t)
  have HRM := Bx.mk (rgood_any b t)
  have HS := Bx.mk (back_any b t)
  have HRS := Bx.mk (rback_any b t)
  have HB := Bx.mk (lays_box w b)
  have hmix : Try.prog.follows .mixedOrders = true := by kernel_rfl
  unfold Gv at *
  unfold bw at *
  unfold True_
  generalize goodb b t = x at *
  generalize backb b t = y at *
  generalize badb b n c t u = z at *
  generalize (if badE b n c then (2 : Int) else 0) = ze at *
  obtain ⟨o, s, p, tr⟩ := b
  go_enter Try.func4, Try.ntmps4
  go_wp2_with fail
  refine (HT.out _).mono ?_
  rintro e w2 ⟨rfl, hg⟩
  have L := HB.out.grew hg
  have G := Bx.mk ((grew_box _ _).trans hg)
  clear hg HB HT
  have L' := Bx.mk L
  obtain ⟨c0, c1, c2, c3, f0⟩ := L
  have q0 := fun o => (L'.out.new o).c0
  have q1 := fun o => (L'.out.new o).c1
  have q2 := fun o => (L'.out.new o).c2
  have q3 := fun o => (L'.out.new o).c3
  go_wp2_with fail
  refine (HRT.out _).mono ?_
  rintro e w3 ⟨rfl, hg⟩
  have L := (L'.out.new _).grew hg
  have Z := (lays_box w2 z).grew hg
  have G := Bx.mk ((G.out.alloc _).trans hg)
  clear hg HRT c0 c1 c2 c3 f0 q0 q1 q2 q3 L'
  have L' := Bx.mk L
  have Z' := Bx.mk Z
  clear L Z
  go_wp2_with fail
  refine wp_at (fun W => LaysG W w.heap.size ⟨o, s, p, tr⟩ ∧ LaysG W w2.heap.size z ∧ LaysG W w3.heap.size z ∧ Bx (Grew w W)) ⟨(L'.out.new _).g, (Z'.out.new _).g, (lays_box w3 z).g, ⟨G.out.alloc _⟩⟩ ?_
  clear L' Z' G
  rintro W ⟨⟨L⟩, ⟨Z⟩, ⟨Y⟩, G⟩
  have c0 := fun n os => (L n os).c0
  have c1 := fun n os => (L n os).c1
  have c2 := fun n os => (L n os).c2
  have c3 := fun n os => (L n os).c3
  have d0 := fun n os => (Z n os).c0
  have d1 := fun n os => (Z n os).c1
  have d2 := fun n os => (Z n os).c2
  have d3 := fun n os => (Z n os).c3
  have e0 := fun n os => (Y n os).c0
  have e1 := fun n os => (Y n os).c1
  have e2 := fun n os => (Y n os).c2
  have e3 := fun n os => (Y n os).c3
  clear L Z Y
  go_quiet_grown (first
    | (go_at_call 17; exact grown_call HM.out _ _ _)
    | (go_at_call 18; exact grown_call HRM.out _ _ _)
    | (go_at_call 19; exact grown_call HS.out _ _ _)
    | (go_at_call 20; exact grown_call HRS.out _ _ _))
  have G2 := Bx.mk (G.out.trans (grew_grow W nq osq))
  generalize grow (W.drewN nq) osq = W2 at *
  clear c0 c1 c2 c3 d0 d1 d2 d3 e0 e1 e2 e3
  go_wp2_with fail
  go_ret
  exact ⟨rfl, G2.out.below⟩
end Go.Proofs.Ytcnlcjlipbpjoaa.bk
