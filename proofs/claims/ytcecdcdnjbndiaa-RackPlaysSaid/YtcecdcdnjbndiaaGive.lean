/-
  Given for the seat's laws: the contract of Give. No condition but those of the theorems.
-/
import Derived.Test.YtcecdcdnjbndiaaGive1
namespace Go.Proofs.Ytcecdcdnjbndiaa.rack
open Go.RowKit Go.Shelf mem find reg
set_option linter.unusedVariables false
attribute [local go_sem] Oper.semAt_some

/-- while Give goes through the own ids: k are behind it, all of them in use -/
structure Giv (w : World) (S : Nat → Prop) (r N : Nat) (nx st v : Int) (R : List (Int × Int)) (k : Nat) (nxt : Int) (W : World) : Prop where
  rk : Rk W S r N nxt st R
  used : ∀ j : Nat, j < k → nx + (j : Int) * st ≤ 1099511627775 ∧ Has R (nx + (j : Int) * st)
  bx : Boxes4 W w.heap.size r v 0 0
  bo : Lies W (w.heap.size + 4) 23 #[.pointer (some ⟨r, 0, none⟩)]
  keep : Keep w.heap.size S w W

/-- behind Give, where it has given -/
structure Gave (w : World) (S : Nat → Prop) (r N : Nat) (nx st v : Int) (R : List (Int × Int)) (W : World) : Prop where
  ex : ∃ k : Nat, (∀ j : Nat, j < k → nx + (j : Int) * st ≤ 1099511627775 ∧ Has R (nx + (j : Int) * st)) ∧ nx + (k : Int) * st ≤ 1099511627775 ∧ ¬ Has R (nx + (k : Int) * st) ∧
    Did S r N (nx + ((k + 1 : Nat) : Int) * st) st (insR (nx + (k : Int) * st, v) R) w W ∧ Boxes4 W w.heap.size r v (nx + (k : Int) * st) 0

structure GivN (w : World) (S : Nat → Prop) (r N : Nat) (nx st v : Int) (R : List (Int × Int)) (W : World) : Prop where
  ex : ∃ k : Nat, Giv w S r N nx st v R k (nx + (k : Int) * st) W ∧ 1099511627775 < nx + (k : Int) * st

/-- what Give leaves -/
structure GivePost (S : Nat → Prop) (r N : Nat) (nx st v : Int) (R : List (Int × Int)) (w : World) (e : Ending) (w' : World) : Prop where
  ex : ∃ k : Nat, (∀ j : Nat, j < k → nx + (j : Int) * st ≤ 1099511627775 ∧ Has R (nx + (j : Int) * st)) ∧
    ((nx + (k : Int) * st ≤ 1099511627775 ∧ ¬ Has R (nx + (k : Int) * st) ∧ e = .returned (.tuple #[.int .i64 (nx + (k : Int) * st), .int .i64 0]) ∧ Did S r N (nx + ((k + 1 : Nat) : Int) * st) st (insR (nx + (k : Int) * st, v) R) w w') ∨
     (1099511627775 < nx + (k : Int) * st ∧ e = .returned (.tuple #[.int .i64 0, .int .i64 4]) ∧ Did S r N (nx + (k : Int) * st) st R w w'))

section
variable {W W' : World} {B : Nat} {row : Option Nat}
theorem lies_own {g : Nat} {t : TypeId} {cs : Array Value} (h : Lies W g t cs) (hg : W.grownBy W' row) (hr : ∀ r, row = some r → B ≤ r ∧ ∃ o : Obj, W.heap[r]? = some o ∧ o.isCells = false) : Lies W' g t cs :=
  h.grown hg (fun e => by
    obtain ⟨_, o, ho, hc⟩ := hr g e.symm
    unfold Lies at h
    rw [h] at ho
    cases ho
    cases hc)
theorem own_cells {A : Option Addr} {c : Nat} {l : List (Int × Int)} (h : RowsAt W A c l) {g : Nat} (hg : rowOf A = some g) : ∃ cur, W.heap[g]? = some (.cells cur 69 (0, 0)) := by
  rcases h.2 with ⟨he, h0⟩ | ⟨g1, cap, cur, he, hb, hgg, _⟩
  · simp only [Value.slice.injEq] at he
    obtain ⟨rfl, _, rfl⟩ := he
    simp [rowOf, Value.ownBlock] at hg
  · simp only [Value.slice.injEq] at he
    obtain ⟨rfl, _, rfl⟩ := he
    simp [rowOf, Value.ownBlock] at hg
    subst hg
    exact ⟨cur, hgg⟩
theorem rk_own {S : Nat → Prop} {r N : Nat} {nx st : Int} {R : List (Int × Int)} (h : Rk W S r N nx st R) (hg : W.grownBy W' row) (hr : ∀ r, row = some r → B ≤ r ∧ ∃ o : Obj, W.heap[r]? = some o ∧ o.isCells = false) : Rk W' S r N nx st R := by
  obtain ⟨A, c, h1, h2, h3⟩ := h.ex
  refine ⟨⟨A, c, lies_own h1 hg hr, RowsAt.of_same h2 (fun g e => ?_), h3⟩, h.own, h.sorted, h.len, h.size⟩
  rw [rowOf_eq] at e
  obtain ⟨cur, hc⟩ := own_cells h2 e
  exact lies_own (t := 69) (cs := cur) hc hg hr |>.trans hc.symm
theorem boxes_own {b r : Nat} {v x e : Int} (h : Boxes4 W b r v x e) (hg : W.grownBy W' row) (hr : ∀ r, row = some r → B ≤ r ∧ ∃ o : Obj, W.heap[r]? = some o ∧ o.isCells = false) : Boxes4 W' b r v x e :=
  ⟨lies_own h.b0 hg hr, lies_own h.b1 hg hr, lies_own h.b2 hg hr, lies_own h.b3 hg hr⟩
theorem keep_own {w : World} {S : Nat → Prop} (h : Keep w.heap.size S w W) (hB : w.heap.size ≤ B) (hg : W.grownBy W' row) (hr : ∀ r, row = some r → B ≤ r ∧ ∃ o : Obj, W.heap[r]? = some o ∧ o.isCells = false) : Keep w.heap.size S w W' :=
  h.grown hg h.size (fun k e => .inl (Nat.le_trans hB (hr k e).1))
theorem giv_own {w : World} {S : Nat → Prop} {r N k : Nat} {nx st v nxt : Int} {R : List (Int × Int)} (h : Giv w S r N nx st v R k nxt W) (hB : w.heap.size ≤ B) (hg : W.grownBy W' row) (hr : ∀ r, row = some r → B ≤ r ∧ ∃ o : Obj, W.heap[r]? = some o ∧ o.isCells = false) : Giv w S r N nx st v R k nxt W' :=
  ⟨rk_own h.rk hg hr, h.used, boxes_own h.bx hg hr, lies_own h.bo hg hr, keep_own h.keep hB hg hr⟩
theorem gave_own {w : World} {S : Nat → Prop} {r N : Nat} {nx st v : Int} {R : List (Int × Int)} (h : Gave w S r N nx st v R W) (hB : w.heap.size ≤ B) (hg : W.grownBy W' row) (hr : ∀ r, row = some r → B ≤ r ∧ ∃ o : Obj, W.heap[r]? = some o ∧ o.isCells = false) : Gave w S r N nx st v R W' := by
  obtain ⟨k, h1, h2, h3, h4, h5⟩ := h.ex
  exact ⟨k, h1, h2, h3, ⟨rk_own h4.rk hg hr, keep_own h4.keep hB hg hr⟩, boxes_own h5 hg hr⟩
theorem givn_own {w : World} {S : Nat → Prop} {r N : Nat} {nx st v : Int} {R : List (Int × Int)} (h : GivN w S r N nx st v R W) (hB : w.heap.size ≤ B) (hg : W.grownBy W' row) (hr : ∀ r, row = some r → B ≤ r ∧ ∃ o : Obj, W.heap[r]? = some o ∧ o.isCells = false) : GivN w S r N nx st v R W' := by
  obtain ⟨k, h1, h2⟩ := h.ex
  exact ⟨k, giv_own h1 hB hg hr, h2⟩
theorem rk_next {S : Nat → Prop} {r N : Nat} {nx st : Int} {R : List (Int × Int)} (h : Rk W S r N nx st R) (n : Int) : Rk (W.setCell ⟨r, 3, none⟩ (.int .i64 n)) S r N n st R := by
  obtain ⟨A, c, h1, h2, h3⟩ := h.ex
  refine ⟨⟨A, c, h1.set 3 _, RowsAt.of_same h2 (fun g e => ?_), h3⟩, h.own, h.sorted, h.len, h.size⟩
  rw [rowOf_eq] at e
  exact Below.heap_setCell _ _ _ _ (own_apart h2 e h1 (by decide))
theorem keepsFrom_below {W W' : World} (h : Below W.heap.size W W') (B : Nat) : KeepsFrom B W W' := ⟨h.size, fun k o _ hk _ => (h.block k (Array.getElem?_eq_some_iff.1 hk).1).trans hk⟩
theorem keepsFrom_keep {W W' : World} {S : Nat → Prop} (h : Keep W.heap.size S W W') {B : Nat} (hS : ∀ g, S g → g < B) : KeepsFrom B W W' :=
  ⟨h.size, fun k o hB hk _ => (h.block k (Array.getElem?_eq_some_iff.1 hk).1 (fun e => by have := hS k e; omega)).trans hk⟩
theorem giv_step {w : World} {S : Nat → Prop} {r N k : Nat} {nx st v nxt : Int} {R : List (Int × Int)} (hS : ∀ g, S g → g < w.heap.size) (h : Giv w S r N nx st v R k nxt W) (n : Int) :
    Giv w S r N nx st v R k n (W.setCell ⟨r, 3, none⟩ (.int .i64 n)).drew := by
  have hk : Keep W.heap.size S W (W.setCell ⟨r, 3, none⟩ (.int .i64 n)).drew := ((Keep.refl _ S W).setCell (p := ⟨r, 3, none⟩) (.inr h.rk.own) _).drew
  have hl := h.bo.lt
  have hr : Rk (W.setCell ⟨r, 3, none⟩ (.int .i64 n)).drew S r N n st R := (rk_next h.rk n).below (Below.refl _ _).drew
  exact ⟨hr, h.used, Boxes4.keep (b := w.heap.size) h.bx hk (by omega) hS, h.bo.keep hk h.bo.lt (fun e => by have := hS _ e; omega), (h.keep.setCell (p := ⟨r, 3, none⟩) (.inr h.rk.own) _).drew⟩
theorem rk_far {S : Nat → Prop} {r N : Nat} {nx st : Int} {R : List (Int × Int)} (h : Rk W S r N nx st R) {p : Addr} (hp : ¬ S p.block) (u : Value) : Rk (W.setCell p u) S r N nx st R := by
  obtain ⟨A, c, h1, h2, h3⟩ := h.ex
  refine ⟨⟨A, c, h1.far (fun e => hp (by rw [← e]; exact h.own)) _, RowsAt.of_same h2 (fun g e => ?_), h3⟩, h.own, h.sorted, h.len, h.size⟩
  rw [rowOf_eq] at e
  exact Below.heap_setCell _ _ _ _ (fun e' => hp (by rw [← e']; exact h3 g e))
theorem giv_more {w w' : World} {S : Nat → Prop} {r N k : Nat} {nx st v : Int} {R : List (Int × Int)} (hS : ∀ g, S g → g < w.heap.size) (h : Giv w S r N nx st v R k (nx + ((k + 1 : Nat) : Int) * st) W) (hb : Below W.heap.size W w')
    (hle : nx + (k : Int) * st ≤ 1099511627775) (hin : Has R (nx + (k : Int) * st)) : Giv w S r N nx st v R (k + 1) (nx + ((k + 1 : Nat) : Int) * st) w' := by
  have hl := h.bo.lt
  refine ⟨h.rk.below hb, fun j hj => ?_, Boxes4.keep (b := w.heap.size) h.bx (Keep.of_below hb (fun _ => False)) (by omega) (fun _ hf => hf.elim), h.bo.below hb hl, h.keep.trans (Keep.of_below (hb.mono h.keep.size) S)⟩
  by_cases e : j = k
  · subst e; exact ⟨hle, hin⟩
  · exact h.used j (by omega)
theorem gave_mk {w w' : World} {S : Nat → Prop} {r N k : Nat} {nx st v : Int} {R : List (Int × Int)} (hS : ∀ g, S g → g < w.heap.size) (h : Giv w S r N nx st v R k (nx + ((k + 1 : Nat) : Int) * st) W)
    (hle : nx + (k : Int) * st ≤ 1099511627775) (hin : ¬ Has R (nx + (k : Int) * st)) (hd : Did S r N (nx + ((k + 1 : Nat) : Int) * st) st (insR (nx + (k : Int) * st, v) R) W w') (hbx : Boxes4 w' w.heap.size r v 0 0) :
    Gave w S r N nx st v R ((w'.setCell ⟨w.heap.size + 1 + 1, 0, none⟩ (.int .i64 (nx + (k : Int) * st))).setCell ⟨w.heap.size + 1 + 1 + 1, 0, none⟩ (.int .i64 0)) := by
  have hl := h.bo.lt
  refine ⟨k, h.used, hle, hin, ⟨(rk_far (rk_far hd.rk ?_ _) ?_ _).mono ?_, ?_⟩, hbx.set2 _ _⟩
  · rintro (e | e)
    · have := hS _ e; simp at this; omega
    · simp at e; omega
  · rintro (e | e)
    · have := hS _ e; simp at this; omega
    · simp at e; omega
  · rintro g (e | e)
    · exact .inl e
    · exact .inr (by omega)
  · exact ((h.keep.trans (hd.keep.mono (by omega) (fun _ _ e => e))).setCell (p := ⟨w.heap.size + 1 + 1, 0, none⟩) (.inl (by simp; omega)) _).setCell (p := ⟨w.heap.size + 1 + 1 + 1, 0, none⟩) (.inl (by simp; omega)) _
end

set_option maxRecDepth 100000 in
set_option maxHeartbeats 4000000 in
theorem give_in {w : World} {S : Nat → Prop} {r N : Nat} {nx st : Int} {R : List (Int × Int)} (h : Rk w S r N nx st R) (hS : ∀ g, S g → g < w.heap.size) (hf : R.length < N) (n1 : 1 ≤ nx) (n2 : nx ≤ 1099511627775 + 1000) (n3 : 1 ≤ st) (n4 : st ≤ 1000) (v : Int) :
    CallsIn Fence.wide 3 Try.prog 9 #[.pointer (some ⟨r, 0, none⟩), .int .i64 v] w (GivePost S r N nx st v R w) := by
  have H := Lib.hid h
  have HF := Lib.hid hf
  have HS := Lib.hid hS
  clear h hf hS
  refine callsIn_of_wp_marks Try.func9 rfl trivial ?_ rfl
  simp only [Try.ntmps9, List.size_toArray, List.length_cons, List.length_nil, Nat.reduceAdd, Nat.reduceSub, Array.replicate_succ, Array.replicate_zero, List.push_toArray, List.append_toArray, List.nil_append, List.cons_append]
  gi_wp2_with fail
  have HR := Lib.hid (H.out.below (below_four w r v))
  refine ⟨trivial, (callsIn_wide.2 (made_yes HR.out)).mono ?_⟩
  rintro e w' ⟨rfl, rfl⟩
  gi_wp2_with fail
  refine ⟨trivial, (callsIn_wide.2 (full_no HR.out HF.out)).mono ?_⟩
  rintro e w2 ⟨rfl, hst⟩
  have hb := (boxes_four w r v).still hst
  have hB := (below_four w r v).trans (hst.below _)
  have hz2 : w2.heap.size = w.heap.size + 4 := by rw [hst.size, size_four]
  have c0 := hb.b0.cell 0
  simp at c0
  have HBX := Lib.hid hb
  have HB := Lib.hid hB
  have HZ2 := Lib.hid hz2
  clear hst hb hB HR hz2
  gi_wp2_with fail
  refine ⟨trivial, (callsIn_wide.2 (own_any _ _)).mono ?_⟩
  rintro e w3 ⟨rfl, hw3⟩
  have hz3 : w3.heap.size = w.heap.size + 5 := by rw [hw3, World.size_alloc, HZ2.out]
  have h0 : Giv w S r N nx st v R 0 nx w3 := by
    have hbel : Below w.heap.size w w3 := by rw [hw3]; exact HB.out.alloc (by rw [HZ2.out]; omega) _
    have hbx : Boxes4 w3 w.heap.size r v 0 0 := by
      rw [hw3]
      exact ⟨HBX.out.b0.alloc _, HBX.out.b1.alloc _, HBX.out.b2.alloc _, HBX.out.b3.alloc _⟩
    refine ⟨H.out.below hbel, fun j hj => absurd hj (by omega), hbx, ?_, Keep.of_below hbel S⟩
    rw [← HZ2.out, hw3]
    exact Lies.new w2 23 _
  rw [HZ2.out]
  have H0 := Lib.hid h0
  have HZ3 := Lib.hid hz3
  clear h0 hz3 hw3 HBX HB
  gi_wp2_with fail
  refine wpIn_range_w rfl (by omega) (gf := 35) (lb := #[.pointer (some ⟨w.heap.size + 4, 0, none⟩)]) rfl trivial (enters_of Try.func35 (by kernel_rfl) rfl)
    (own1_seq Fence.wide 2 trivial rfl (by omega) w3.heap.size (w.heap.size + 4) r nx st n1 n2 n3 n4 (fun k W => Giv w S r N nx st v R k (nx + (k : Int) * st) W)
      (fun k W => Giv w S r N nx st v R k (nx + ((k + 1 : Nat) : Int) * st) W ∧ nx + (k : Int) * st ≤ 1099511627775) (Gave w S r N nx st v R) (GivN w S r N nx st v R) ?head ?step ?none)
    (fun _ => rfl) ?c1 ?c2 ?c3 ?c4 ?start
    (fun k => { tmps := #[.pointer (some ⟨r, 0, none⟩), .int .i64 v, .pointer (some ⟨w.heap.size, 0, none⟩), .pointer (some ⟨w.heap.size + 1, 0, none⟩), .pointer (some ⟨w.heap.size + 1 + 1, 0, none⟩), .pointer (some ⟨w.heap.size + 1 + 1 + 1, 0, none⟩), .int .i64 (nx + (k : Int) * st),
      .pointer (some ⟨r, 0, none⟩), .bool true, .bool false, .pointer (some ⟨r, 0, none⟩), .pointer (some ⟨r, 0, none⟩), .pointer (some ⟨r, 1, none⟩), .bool false, .pointer (some ⟨r, 0, none⟩), .func (.func 35) #[] #[.pointer (some ⟨w.heap.size + 4, 0, none⟩)],
      .int .i64 (nx + (k : Int) * st), undef, undef, undef, undef, undef, undef, undef], defers := [] }) ?assign ?body ?done ?stop
  case head =>
    intro k W hi
    obtain ⟨A, c, h1, _⟩ := hi.rk.ex
    exact ⟨_, _, _, h1, hi.bo.cell 0⟩
  case step => exact fun k W hi hle => ⟨giv_step HS.out hi _, hle⟩
  case none => exact fun k W hi hlt => ⟨k, hi, hlt⟩
  case c1 => exact fun k X Y row hi hg hr => giv_own hi (by rw [HZ3.out]; omega) hg hr
  case c2 => exact fun k X Y row hi hg hr => ⟨giv_own hi.1 (by rw [HZ3.out]; omega) hg hr, hi.2⟩
  case c3 => exact fun k X Y row hi hg hr => gave_own hi (by rw [HZ3.out]; omega) hg hr
  case c4 => exact fun k X Y row hi hg hr => givn_own hi (by rw [HZ3.out]; omega) hg hr
  case start => simpa using H0.out
  case assign =>
    intro l k W K hK
    gi_wp2
    exact hK
  case body =>
    clear H0
    rintro l k W ⟨hi, hle⟩
    have c0 := hi.bx.b0.cell 0
    have c1 := hi.bx.b1.cell 0
    simp at c0 c1
    obtain ⟨y, hy⟩ : ∃ y, y = nx + (k : Int) * st := ⟨_, rfl⟩
    have hrk : Rk W.drew S r N (nx + ((k + 1 : Nat) : Int) * st) st R := hi.rk.below (Below.refl _ _).drew
    rw [← hy] at hle ⊢
    by_cases hin : Has R y
    · obtain ⟨j, u, hj⟩ := has_get hin
      have HA := Lib.hid (add_in hrk hj v)
      have HI := Lib.hid hi
      have HY := Lib.hid hy
      have HIN := Lib.hid hin
      clear hrk hj hi hy hin
      gi_wp2
      refine wpIn_region_last 5 (by kernel_rfl) (by kernel_rfl) rfl rfl rfl (by decide +kernel) ?_
      simp only [List.take_succ_cons, List.take_zero]
      repeat still_step
      refine wpStill_nil ?_
      go_simp
      refine ⟨trivial, (CallsIn.inRound l (callsIn_wide.2 HA.out)).mono ?_⟩
      rintro e w' ⟨rfl, hb⟩
      have hb' : Below W.heap.size W w' := ⟨hb.os, hb.tape, hb.output, hb.size, hb.block⟩
      have HB := Lib.hid hb'
      clear hb hb' HA
      gi_wp2
      exact ⟨keepsFrom_below HB.out _, giv_more HS.out HI.out HB.out (by rw [← HY.out]; exact hle) (by rw [← HY.out]; exact HIN.out)⟩
    · have HA := Lib.hid (add_out hrk hin HF.out v)
      have HI := Lib.hid hi
      have HY := Lib.hid hy
      have HIN := Lib.hid hin
      clear hrk hi hy hin
      gi_wp2
      refine wpIn_region_last 5 (by kernel_rfl) (by kernel_rfl) rfl rfl rfl (by decide +kernel) ?_
      simp only [List.take_succ_cons, List.take_zero]
      repeat still_step
      refine wpStill_nil ?_
      go_simp
      refine ⟨trivial, (CallsIn.inRound l (callsIn_wide.2 HA.out)).mono ?_⟩
      rintro e w' ⟨rfl, hd⟩
      have hd' : Did S r N (nx + ((k + 1 : Nat) : Int) * st) st (insR (y, v) R) W w' := ⟨hd.rk, ⟨hd.keep.os, hd.keep.tape, hd.keep.output, hd.keep.size, hd.keep.block⟩⟩
      have hl := HI.out.bo.lt
      have hbx : Boxes4 w' w.heap.size r v 0 0 := HI.out.bx.keep hd'.keep (by omega) HS.out
      have c2 := hbx.b2.cell 0
      have c3 := hbx.b3.cell 0
      have f2 := hbx.b2.frozen 0
      have f3 := hbx.b3.frozen 0
      simp at c2 c3
      have hfin : KeepsFrom w3.heap.size W ((w'.setCell ⟨w.heap.size + 1 + 1, 0, none⟩ (.int .i64 y)).setCell ⟨w.heap.size + 1 + 1 + 1, 0, none⟩ (.int .i64 0)) ∧ Gave w S r N nx st v R ((w'.setCell ⟨w.heap.size + 1 + 1, 0, none⟩ (.int .i64 y)).setCell ⟨w.heap.size + 1 + 1 + 1, 0, none⟩ (.int .i64 0)) := by
        refine ⟨((keepsFrom_keep hd'.keep (fun g e => by have := HS.out g e; rw [HZ3.out]; omega)).trans ((KeepsOthers.setCell _ _ _).from _)).trans ((KeepsOthers.setCell _ _ _).from _), ?_⟩
        rw [HY.out] at hd' HIN ⊢
        rw [HY.out] at hle
        exact gave_mk HS.out HI.out hle HIN.out hd' hbx
      have HFIN := Lib.hid hfin
      clear hd hd' hbx hfin HA hl
      gi_wp2
      exact HFIN.out
  case done =>
    rintro D W hD hn hK
    obtain ⟨k, hi, hlt⟩ := hn.ex
    have hl := hi.bo.lt
    have c2 := hi.bx.b2.cell 0
    have c3 := hi.bx.b3.cell 0
    have f2 := hi.bx.b2.frozen 0
    have f3 := hi.bx.b3.frozen 0
    simp at c2 c3
    obtain ⟨W2, hW2⟩ : ∃ W2, W2 = (W.setCell ⟨w.heap.size + 1 + 1, 0, none⟩ (.int .i64 0)).setCell ⟨w.heap.size + 1 + 1 + 1, 0, none⟩ (.int .i64 4) := ⟨_, rfl⟩
    have hK2 : W2.heap[D]? = some (.deferred (some [])) := by rw [hW2]; exact ((KeepsOthers.setCell _ _ _).trans (KeepsOthers.setCell _ _ _)).same D _ hK rfl
    have hbx : Boxes4 W2 w.heap.size r v 0 4 := by rw [hW2]; exact hi.bx.set2 0 4
    have hk2 : Keep w.heap.size S w W2 := by rw [hW2]; exact (hi.keep.setCell (p := ⟨w.heap.size + 1 + 1, 0, none⟩) (.inl (by simp; omega)) _).setCell (p := ⟨w.heap.size + 1 + 1 + 1, 0, none⟩) (.inl (by simp; omega)) _
    have hrk : Rk W2 S r N (nx + (k : Int) * st) st R := by rw [hW2]; exact rk_far (rk_far hi.rk (p := ⟨w.heap.size + 1 + 1, 0, none⟩) (fun e => by have := HS.out _ e; simp at this; omega) _) (p := ⟨w.heap.size + 1 + 1 + 1, 0, none⟩) (fun e => by have := HS.out _ e; simp at this; omega) _
    have hrow : ∀ q, some D = some q → w3.heap.size ≤ q ∧ ∃ o : Obj, W2.heap[q]? = some o ∧ o.isCells = false := fun q e => by cases e; exact ⟨hD, _, hK2, rfl⟩
    have hfin : GivePost S r N nx st v R w (.returned (.tuple #[.int .i64 0, .int .i64 4])) (W2.putObj D (.deferred none)) :=
      ⟨k, hi.used, .inr ⟨hlt, rfl, ⟨(rk_own hrk (grownBy_putObj' W2 D _) hrow).mono (fun g e => .inl e), keep_own hk2 (by rw [HZ3.out]; omega) (grownBy_putObj' W2 D _) hrow⟩⟩⟩
    have hbx2 : Boxes4 (W2.putObj D (.deferred none)) w.heap.size r v 0 4 := boxes_own hbx (grownBy_putObj' W2 D _) hrow
    have HFIN := Lib.hid hfin
    have HBX := Lib.hid hbx2
    have HK := Lib.hid hK2
    rw [hW2] at HFIN HBX HK
    clear hn hi hK hlt hK2 hbx hk2 hrk hrow hfin hbx2 hl
    gi_wp2
    refine ⟨by simp, .inl ⟨_, _, rfl, run_takeDeferred HK.out, ?_⟩⟩
    exact ⟨.tuple #[.int .i64 0, .int .i64 4], results_give HBX.out _ rfl rfl, HFIN.out⟩
  case stop =>
    rintro D W hD hn hK
    obtain ⟨k, h1, h2, h3, h4, h5⟩ := hn.ex
    have hrow : ∀ q, some D = some q → w3.heap.size ≤ q ∧ ∃ o : Obj, W.heap[q]? = some o ∧ o.isCells = false := fun q e => by cases e; exact ⟨hD, _, hK, rfl⟩
    have hfin : GivePost S r N nx st v R w (.returned (.tuple #[.int .i64 (nx + (k : Int) * st), .int .i64 0])) (W.putObj D (.deferred none)) :=
      ⟨k, h1, .inl ⟨h2, h3, rfl, ⟨rk_own h4.rk (grownBy_putObj' W D _) hrow, keep_own h4.keep (by rw [HZ3.out]; omega) (grownBy_putObj' W D _) hrow⟩⟩⟩
    have hbx2 : Boxes4 (W.putObj D (.deferred none)) w.heap.size r v (nx + (k : Int) * st) 0 := boxes_own h5 (grownBy_putObj' W D _) hrow
    have HFIN := Lib.hid hfin
    have HBX := Lib.hid hbx2
    have HK := Lib.hid hK
    clear hn h1 h2 h3 h4 h5 hrow hfin hbx2 hK
    gi_wp2
    refine ⟨by simp, .inl ⟨_, _, rfl, run_takeDeferred HK.out, ?_⟩⟩
    exact ⟨.tuple #[.int .i64 (nx + (k : Int) * st), .int .i64 0], results_give HBX.out _ rfl rfl, HFIN.out⟩

/-- **Give**, where the rack isn't full -/
theorem give_any {w : World} {S : Nat → Prop} {r N : Nat} {nx st : Int} {R : List (Int × Int)} (h : Rk w S r N nx st R) (hf : R.length < N) (n1 : 1 ≤ nx) (n2 : nx ≤ 1099511627775 + 1000) (n3 : 1 ≤ st) (n4 : st ≤ 1000) (v : Int) :
    Calls Try.prog 9 #[.pointer (some ⟨r, 0, none⟩), .int .i64 v] w (GivePost S r N nx st v R w) := by
  refine (callsIn_wide.1 (give_in h.bounded (fun g e => e.2) hf n1 n2 n3 n4 v)).mono ?_
  rintro e w' ⟨k, h1, hh⟩
  refine ⟨k, h1, ?_⟩
  rcases hh with ⟨a, b, c, d⟩ | ⟨a, b, d⟩
  · exact .inl ⟨a, b, c, ⟨d.rk.mono (fun g e => e.imp (·.1) id), d.keep.mono (Nat.le_refl _) (fun g _ e => e.1)⟩⟩
  · exact .inr ⟨a, b, ⟨d.rk.mono (fun g e => e.imp (·.1) id), d.keep.mono (Nat.le_refl _) (fun g _ e => e.1)⟩⟩

end Go.Proofs.Ytcecdcdnjbndiaa.rack
