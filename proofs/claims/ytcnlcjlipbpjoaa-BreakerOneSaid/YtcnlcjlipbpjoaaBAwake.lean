/-
  Given for the seat's laws: the contract of the laws' own awake. No condition.
-/
import Derived.Test.YtcnlcjlipbpjoaaBLaw
import Derived.Deep.RegionHeld3
namespace Go.Proofs.Ytcnlcjlipbpjoaa.bk
open Go.RowKit mem
open Go.Sort (grow)
set_option linter.unusedVariables false

abbrev ba : Bk := ⟨true, 5, 10, false⟩
abbrev bc : Bk := ⟨true, 5, 10, true⟩
abbrev bd : Bk := ⟨true, 17, 20, false⟩
theorem x1 : bw zb 5 10 false true = .tuple #[bv ba, .int .i64 0] := by rfl
theorem x2 : tv ba 15 = .tuple #[bv bc, .bool true, .int .i64 0] := by rfl
theorem x3 : bw bc 17 10 true false = .tuple #[bv bd, .int .i64 0] := by rfl
theorem x4 : tv ba 14 = .tuple #[bv ba, .bool false, .int .i64 2] := by rfl
theorem x5 : lets zb 5 = true ∧ st ba 14 = 1 ∧ st ba 15 = 2 ∧ lets bc 15 = false ∧ st bd 36 = 1 ∧ st bd 37 = 2 ∧ goodb bc true = zb ∧ may bd = true := by decide +kernel

set_option maxHeartbeats 4000000 in
set_option maxRecDepth 100000 in
theorem awake_any (w : World) : Calls Try.prog 21 #[] w fun e w' => e = .returned (.bool true) ∧ Grew w w' := by
  have H1 := Bx.mk (bad_any zb 5 10 false true)
  have H2 := Bx.mk (try_any ba 15)
  have H3 := Bx.mk (bad_any bc 17 10 true false)
  have H4 := Bx.mk (try_any ba 14)
  rw [x1] at H1
  rw [x2] at H2
  rw [x3] at H3
  rw [x4] at H4
  obtain ⟨y1, y2, y3, y4, y5, y6, y7, y8⟩ := x5
  have K1 := Bx.mk (lets_any zb 5)
  have K2 := Bx.mk (state_any ba 14)
  have K3 := Bx.mk (state_any ba 15)
  have K4 := Bx.mk (lets_any bc 15)
  have K5 := Bx.mk (state_any bd 36)
  have K6 := Bx.mk (state_any bd 37)
  have K7 := Bx.mk (good_any bc true)
  have K8 := Bx.mk (may_any bd)
  rw [y1] at K1
  rw [y2] at K2
  rw [y3] at K3
  rw [y4] at K4
  rw [y5] at K5
  rw [y6] at K6
  rw [y7] at K7
  rw [y8] at K8
  clear y1 y2 y3 y4 y5 y6 y7 y8
  have hmix : Try.prog.follows .mixedOrders = true := by kernel_rfl
  unfold Gv at *
  go_enter Try.func21, Try.ntmps21
  go_wp2_with fail
  refine (H1.out _).mono ?_
  rintro e w1 ⟨rfl, hg⟩
  have LB := Bx.mk ((lays_newz w).grew hg)
  have G := Bx.mk ((grew_box w _).trans hg)
  clear hg H1
  go_wp2_with fail
  refine (H2.out _).mono ?_
  rintro e w2 ⟨rfl, hg⟩
  have LB := Bx.mk ((LB.out.new _).grew hg)
  have LA := Bx.mk ((lays_box w1 ba).grew hg)
  have G := Bx.mk ((G.out.alloc _).trans hg)
  clear hg H2
  go_wp2_with fail
  refine (H3.out _).mono ?_
  rintro e w3 ⟨rfl, hg⟩
  have LB := Bx.mk ((LB.out.new _).grew hg)
  have LA := Bx.mk ((LA.out.new _).grew hg)
  have LC := Bx.mk ((lays_box w2 bc).grew hg)
  have G := Bx.mk ((G.out.alloc _).trans hg)
  clear hg H3
  have q0 := fun o => (LA.out.new o).c0
  have q1 := fun o => (LA.out.new o).c1
  have q2 := fun o => (LA.out.new o).c2
  have q3 := fun o => (LA.out.new o).c3
  go_wp2_with fail
  refine (H4.out _).mono ?_
  rintro e w4 ⟨rfl, hg⟩
  clear q0 q1 q2 q3
  have LB := Bx.mk ((LB.out.new _).grew hg)
  have LA := Bx.mk ((LA.out.new _).grew hg)
  have LC := Bx.mk ((LC.out.new _).grew hg)
  have LD := Bx.mk ((lays_box w3 bd).grew hg)
  have G := Bx.mk ((G.out.alloc _).trans hg)
  clear hg H4
  go_wp2_with fail
  refine wp_at (fun W => LaysG W w.heap.size zb ∧ LaysG W w1.heap.size ba ∧ LaysG W w2.heap.size bc ∧ LaysG W w3.heap.size bd ∧ Bx (Grew w W)) ⟨(LB.out.new _).g, (LA.out.new _).g, (LC.out.new _).g, (LD.out.new _).g, ⟨G.out.alloc _⟩⟩ ?_
  clear LB LA LC LD G
  rintro W ⟨⟨L⟩, ⟨Z⟩, ⟨Y⟩, ⟨X⟩, G⟩
  have b0 := fun n os => (L n os).c0
  have b1 := fun n os => (L n os).c1
  have b2 := fun n os => (L n os).c2
  have b3 := fun n os => (L n os).c3
  have a0 := fun n os => (Z n os).c0
  have a1 := fun n os => (Z n os).c1
  have a2 := fun n os => (Z n os).c2
  have a3 := fun n os => (Z n os).c3
  have c0 := fun n os => (Y n os).c0
  have c1 := fun n os => (Y n os).c1
  have c2 := fun n os => (Y n os).c2
  have c3 := fun n os => (Y n os).c3
  have d0 := fun n os => (X n os).c0
  have d1 := fun n os => (X n os).c1
  have d2 := fun n os => (X n os).c2
  have d3 := fun n os => (X n os).c3
  clear L Z Y X
  go_quiet_grown (first
    | (go_at_call 13; first | with_reducible exact grown_call K1.out _ _ _ | with_reducible exact grown_call K4.out _ _ _)
    | (go_at_call 11; first | with_reducible exact grown_call K2.out _ _ _ | with_reducible exact grown_call K3.out _ _ _ | with_reducible exact grown_call K5.out _ _ _ | with_reducible exact grown_call K6.out _ _ _)
    | (go_at_call 17; with_reducible exact grown_call K7.out _ _ _)
    | (go_at_call 9; with_reducible exact grown_call K8.out _ _ _))
  have G2 := Bx.mk (G.out.trans (grew_grow W nq osq))
  generalize grow (W.drewN nq) osq = W2 at *
  clear a0 a1 a2 a3 b0 b1 b2 b3 c0 c1 c2 c3 d0 d1 d2 d3
  go_wp2_with fail
  go_ret
  exact ⟨rfl, G2.out⟩
end Go.Proofs.Ytcnlcjlipbpjoaa.bk
