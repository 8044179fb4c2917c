/-
  Given for the seat's laws: the chapter's example. No condition.
-/
import Derived.Test.YtcecdcdnjbndiaaActs3
namespace Go.Proofs.Ytcecdcdnjbndiaa.rack
open Go.RowKit mem find
set_option linter.unusedVariables false

structure GiveAt (w : World) (r N : Nat) (nx st : Int) (R : List (Int × Int)) (y : Int) (e : Ending) (W' : World) : Prop where
  eq : e = .returned (.tuple #[.int .i64 y, .int .i64 0])
  st : ∃ S', St w S' r N nx st R W'

theorem give_at {w W : World} {S : Nat → Prop} {r N : Nat} {nx st : Int} {R : List (Int × Int)} (h : St w S r N nx st R W) (hf : R.length < N) (n1 : 1 ≤ nx) (n2 : nx ≤ 1000000) (n3 : 1 ≤ st) (n4 : st ≤ 1000) (v : Int)
    (q0 : Nat) (y nx' : Int) (hy : nx + (q0 : Int) * st = y) (hnx : nx + ((q0 + 1 : Nat) : Int) * st = nx') (hu : ∀ j : Nat, j < q0 → Has R (nx + (j : Int) * st)) (hn : ¬ Has R y) :
    Calls Try.prog 9 #[.pointer (some ⟨r, 0, none⟩), .int .i64 v] W (GiveAt w r N nx' st (insR (y, v) R) y) := by
  refine (give_st h hf n1 n2 n3 n4 v).mono ?_
  rintro e W' ⟨q, S', hq, h1, h2, rfl, hs, _⟩
  have e : q = q0 := by
    rcases Nat.lt_trichotomy q q0 with hl | hl | hl
    · exact absurd (hu q hl) h2
    · exact hl
    · exact absurd (h1 q0 hl) (by rw [hy]; exact hn)
  subst e
  rw [hy, hnx] at hs
  exact ⟨by rw [hy], S', hs⟩

theorem two_cells {w : World} {B : Nat} {A : Option Addr} {c : Nat} {x y : Int} (h : w.ownsRow B 3 1 (.slice A 2 c) 2 (I8 [x, y])) : ∃ g, A = some ⟨g, 0, none⟩ ∧ w.cell? ⟨g, 0, none⟩ = some (.int .i64 x) ∧ w.cell? ⟨g, 1, none⟩ = some (.int .i64 y) := by
  rcases h.2 with ⟨_, h0⟩ | ⟨g, cap, cur, he, hb, hg, hn, hm, hs, ht⟩
  · omega
  · simp only [Value.slice.injEq] at he
    obtain ⟨rfl, _, rfl⟩ := he
    have k1 := h.cells (g := g) rfl 0 (.int .i64 x) rfl
    have k2 := h.cells (g := g) rfl 1 (.int .i64 y) rfl
    rw [Addr.add_lit] at k1 k2
    exact ⟨g, rfl, k1, k2⟩

set_option maxRecDepth 100000 in
set_option maxHeartbeats 4000000 in
theorem awake_any (w : World) : Calls Try.prog 23 #[] w fun e w' => e = .returned (.bool true) ∧ Below w.heap.size w w' := by
  have HN := Lib.hid (new_ok 2 1 2 w (by omega) (by omega) (by omega) (by omega) (by omega) (by omega))
  go_enter Try.func23, Try.ntmps23
  go_wp2_with fail
  refine HN.out.mono ?_
  rintro e w1 ⟨rfl, hn⟩
  have h1 := St.made hn (Below.refl _ _)
  generalize w.heap.size = r at h1 hn ⊢
  have HG := Lib.hid (give_at h1 (by simp) (by omega) (by omega) (by omega) (by omega) 7 0 1 3 (by omega) (by omega) (fun j hj => absurd hj (by omega)) (fun ⟨v, hv⟩ => by simp at hv))
  clear hn h1 HN
  go_wp2_with fail
  refine HG.out.mono ?_
  rintro e w2 ⟨rfl, S2, h2⟩
  have e2 : insR (1, 7) [] = [(1, 7)] := rfl
  rw [e2] at h2
  have HH := Lib.hid (hold_ok h2.rk (id := 3) (fun ⟨v, hv⟩ => by simp at hv) (by omega) (by omega) (by simp) 9)
  have H2 := Lib.hid h2
  clear h2 HG
  go_wp2_with fail
  refine HH.out.mono ?_
  rintro e w3 ⟨rfl, hd3⟩
  have h3 := H2.out.did hd3
  have e3 : insR (3, 9) [(1, 7)] = [(1, 7), (3, 9)] := by decide
  rw [e3] at h3
  have HF := Lib.hid (give_full h3.rk rfl 1)
  have H3 := Lib.hid h3
  clear h3 hd3 HH H2
  go_wp2_with fail
  refine HF.out.mono ?_
  rintro e w4 ⟨rfl, hb4⟩
  have h4 := H3.out.later hb4
  have HD := Lib.hid (drop_in h4.rk (k := 0) (id := 1) (v := 7) rfl)
  have H4 := Lib.hid h4
  clear h4 hb4 HF H3
  go_wp2_with fail
  refine HD.out.mono ?_
  rintro e w5 ⟨rfl, hd5⟩
  have h5 := H4.out.did hd5
  have e5 : delR 1 [(1, 7), (3, 9)] = [(3, 9)] := by decide
  rw [e5] at h5
  have HG := Lib.hid (give_at h5 (by simp) (by omega) (by omega) (by omega) (by omega) 8 1 5 7 (by omega) (by omega) (fun j hj => by have e : j = 0 := (by omega); subst e; exact ⟨9, by simp⟩) (fun ⟨v, hv⟩ => by simp at hv))
  clear hd5 h5 HD H4
  go_wp2_with fail
  refine HG.out.mono ?_
  rintro e w6 ⟨rfl, S6, h6⟩
  have e6 : insR (5, 8) [(3, 9)] = [(3, 9), (5, 8)] := by decide
  rw [e6] at h6
  have HI := Lib.hid (ids_of h6.rk)
  have H6 := Lib.hid h6
  clear h6 HG
  go_wp2_with fail
  refine HI.out.mono ?_
  rintro e w7 ⟨A, c, rfl, ho, hb7⟩
  obtain ⟨g, rfl, k1, k2⟩ := two_cells ho
  have h7 := H6.out.later hb7
  have HD := Lib.hid (drop_out h7.rk (id := 1) (fun ⟨v, hv⟩ => by simp at hv))
  have H7 := Lib.hid h7
  clear h7 hb7 ho HI H6
  have k1' : w7.cell? ⟨g, 0, none⟩ = some (.int .i64 3) := k1
  have k2' : w7.cell? ⟨g, 1, none⟩ = some (.int .i64 5) := k2
  clear k1 k2
  go_wp2_with (go_at_call 15; refine HD.out.mono ?_; rintro e w8 ⟨rfl, hb8⟩)
  go_ret
  exact ⟨rfl, (H7.out.later hb8).below⟩

end Go.Proofs.Ytcecdcdnjbndiaa.rack
