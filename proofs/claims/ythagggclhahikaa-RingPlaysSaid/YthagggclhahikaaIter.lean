/-
  Given for the seat's laws: the contract of the function that pieces hands back, when it is ranged over. No condition but those of the theorems.
-/
import Derived.RangeFuncNested
import Derived.RangeFuncBound
import Derived.RangeFuncCalls
import Derived.RangeFuncLeaves
import Derived.Shelf.Abstract
import Derived.WalkKit
import Derived.OwnWalkIn
import Derived.TacticsInMore
import Derived.LoopNIn
import Derived.LoopIn
import Derived.Test.YthagggclhahikaaReg
import Derived.Test.YthagggclhahikaaPieces
namespace Go.Proofs.Ythagggclhahikaa.iter
open Go.RowKit mem ring pieces reg Go.Shelf
set_option linter.unusedVariables false
attribute [local go_sem] Oper.semAt_some

/-- a piece of the store: where it begins, and how long it is -/
abbrev Pc (N : Nat) := { x : Nat × Nat // x.1 + x.2 ≤ N }
def pieceV (s : Nat) (x : Nat × Nat) : Value := .slice (some ⟨s, x.1, none⟩) x.2 x.2

theorem from_lt {N first skip : Nat} (h : 0 < N) : fromOf N first skip < N := Nat.mod_lt _ h
theorem to_le {N first skip n : Nat} : toOf N first skip n ≤ N := by unfold toOf; omega
theorem from_to {N first skip n : Nat} (h : 0 < N) (hn : 0 < n) : fromOf N first skip < toOf N first skip n := by have := from_lt (first := first) (skip := skip) h; unfold toOf; omega
theorem rest_le {N first skip n : Nat} (h : 0 < N) (hn : n ≤ N) : restOf N first skip n ≤ N := by unfold restOf; omega

def one (N first skip n : Nat) (h : 0 < N) : Pc N := ⟨(fromOf N first skip, toOf N first skip n - fromOf N first skip), by have := from_lt (first := first) (skip := skip) h; have := to_le (N := N) (first := first) (skip := skip) (n := n); show _ + (_ - _) ≤ N; omega⟩
def two (N first skip n : Nat) (h : 0 < N) (hn : n ≤ N) : Pc N := ⟨(0, restOf N first skip n), by have := rest_le (first := first) (skip := skip) h hn; show 0 + _ ≤ N; omega⟩

/-- what a round that goes on keeps: the ring's head and the four boxes -/
def KpOf (b R : Nat) (W W' : World) : Prop := W'.heap[b]? = W.heap[b]? ∧ W'.heap[R]? = W.heap[R]? ∧ W'.heap[R + 1]? = W.heap[R + 1]? ∧ W'.heap[R + 2]? = W.heap[R + 2]? ∧ W'.heap[R + 3]? = W.heap[R + 3]?
theorem kp_t {b R : Nat} {A B C : World} (h : KpOf b R A B) (k : KpOf b R B C) : KpOf b R A C :=
  ⟨k.1.trans h.1, k.2.1.trans h.2.1, k.2.2.1.trans h.2.2.1, k.2.2.2.1.trans h.2.2.2.1, k.2.2.2.2.trans h.2.2.2.2⟩
theorem kp_b {b R : Nat} {w : World} (hb : b < w.heap.size) (hR : R + 3 < w.heap.size) (W : World) (l : Nat) (o o' : Obj) (hl : w.heap.size ≤ l) (_ : W.heap[l]? = some o) (_ : o.isCells = false) (_ : o.isWalk = false) : KpOf b R W (W.putObj l o') := by
  refine ⟨?_, ?_, ?_, ?_, ?_⟩ <;> exact World.putObj_heap_other (by omega)
theorem boxes_kp {w w' : World} {R b N first skip n : Nat} (h : Boxes w R b N first skip n) (k : KpOf b R w w') : Boxes w' R b N first skip n :=
  ⟨h.x0.of_same k.2.1, h.x1.of_same k.2.2.1, h.x2.of_same k.2.2.2.1, h.x3.of_same k.2.2.2.2⟩

theorem cut_lhm (W : World) (s N f t : Nat) (h1 : f < t) (h2 : t ≤ N) :
    (Instr.slice 31 (.slice (some ⟨s, 0, none⟩) N N) (some (.int .i64 (f : Int))) (some (.int .i64 (t : Int))) (some (.int .i64 (t : Int)))).run Try.prog W = .ok (.slice (some ⟨s, f, none⟩) (t - f) (t - f)) W := by
  obtain ⟨i0, hi, hz0, hz1, hz2⟩ := info_parts info5
  rw [run_slice_lhm W 31 _ N N (by kernel_rfl) .i64 .i64 .i64 _ _ _ (by omega) (by omega) (Int.le_refl _) (by omega)]
  have he : Try.prog.elem 31 = 5 := by kernel_rfl
  rw [he]
  have hs : (sizeOf 5).run Try.prog W = .ok 1 W := by simp [sizeOf, typeInfo, hi, hz1]
  rw [hs]
  simp only [Result.andThen, sliced, Int.toNat_natCast, Nat.mul_one, Option.map_some]
  rw [if_neg (by omega)]
  by_cases hf : f = 0 <;> simp [Addr.add, hf]

theorem cut_hm (W : World) (s N r : Nat) (h2 : r ≤ N) :
    (Instr.slice 31 (.slice (some ⟨s, 0, none⟩) N N) none (some (.int .i64 (r : Int))) (some (.int .i64 (r : Int)))).run Try.prog W = .ok (.slice (some ⟨s, 0, none⟩) r r) W := by
  obtain ⟨i0, hi, hz0, hz1, hz2⟩ := info_parts info5
  rw [run_slice_hm W 31 _ N N (by kernel_rfl) .i64 .i64 _ _ (by omega) (Int.le_refl _) (by omega)]
  have he : Try.prog.elem 31 = 5 := by kernel_rfl
  rw [he]
  have hs : (sizeOf 5).run Try.prog W = .ok 1 W := by simp [sizeOf, typeInfo, hi, hz1]
  rw [hs]
  simp [Result.andThen, sliced, Addr.add]

set_option maxRecDepth 100000 in
set_option maxHeartbeats 1000000 in
theorem iter_in (F : Fence) (m : Nat) (h27 : F.fn 27) (hro : F.round = none) (hm : 1 ≤ m) (l R b s N first skip n : Nat) (hN : 0 < N) (hN4 : N ≤ 4096) (hn0 : 0 < n) (hn : n ≤ N) (J Jx : List (Pc N) → World → Prop)
    (hd : ∀ pre W, J pre W → J pre W.drew)
    (hY : ∀ pre (x : Pc N) W, J pre W → pre.length < 2 → YieldAt F (m - 1) Try.prog l #[pieceV s x.1] W fun e W' =>
      (e = .returned (.bool true) ∧ J (pre ++ [x]) W' ∧ KpOf b R W W') ∨ (e = .returned (.bool false) ∧ Jx (pre ++ [x]) W'))
    (W : World) (v2 v3 : Value) (hh : Lies W b 45 #[.pointer (some ⟨b, 0, none⟩), .slice (some ⟨s, 0, none⟩) N N, v2, v3]) (hx : Boxes W R b N first skip n) (h0 : J [] W) :
    CallsIn F m Try.prog 27 #[.func (.yield l) #[] #[], .pointer (some ⟨R, 0, none⟩), .pointer (some ⟨R + 1, 0, none⟩), .pointer (some ⟨R + 2, 0, none⟩), .pointer (some ⟨R + 3, 0, none⟩)] W fun e W' => (∃ v, e = .returned v) ∧
      ((∃ ys, ys = [one N first skip n hN, two N first skip n hN hn] ∧ J ys W') ∨ (∃ pre, True ∧ Jx pre W')) := by
  have hy0 := hY [] (one N first skip n hN) W.drew (hd _ _ h0) (by simp)
  have e0 : pieceV s (one N first skip n hN).1 = .slice (some ⟨s, fromOf N first skip, none⟩) (toOf N first skip n - fromOf N first skip) (toOf N first skip n - fromOf N first skip) := rfl
  rw [e0] at hy0
  have f1 := from_to (first := first) (skip := skip) hN hn0
  have f2 : toOf N first skip n ≤ N := to_le
  obtain ⟨fn, tmps, assign, body, hy, hR⟩ := hy0
  have q1 := fun W => cut_lhm W s N _ _ f1 f2
  have c0 : W.cell? ⟨R, 0, none⟩ = some (.pointer (some ⟨b, 0, none⟩)) := hx.x0.cell 0
  have c1 : W.cell? ⟨R + 1, 0, none⟩ = some (.int .i64 (fromOf N first skip : Int)) := hx.x1.cell 0
  have c2 : W.cell? ⟨R + 2, 0, none⟩ = some (.int .i64 (toOf N first skip n : Int)) := hx.x2.cell 0
  have c4 : W.cell? ⟨b, 1, none⟩ = some (.slice (some ⟨s, 0, none⟩) N N) := hh.cell 1
  have H := Lib.hid h0
  have HX := Lib.hid hx
  have HH := Lib.hid hh
  have HYY := Lib.hid hY
  clear hx hh h0 hY
  generalize toOf N first skip n = t at *
  generalize fromOf N first skip = f at *
  refine callsIn_of_wp Try.func27 rfl h27 ?_ hro
  simp only [Try.ntmps27, List.size_toArray, List.length_cons, List.length_nil, Nat.reduceAdd, Nat.reduceSub, Array.replicate_succ, Array.replicate_zero, List.push_toArray, List.append_toArray, List.nil_append, List.cons_append]
  gi_wp2
  refine wpIn_region_last 9 (by kernel_rfl) (by kernel_rfl) rfl rfl rfl (by decide +kernel) ?_
  simp only [List.take_succ_cons, List.take_zero]
  repeat still_step
  refine wpStill_nil ?_
  go_simp
  refine hR.mono ?_
  rintro e W1 (⟨rfl, hJ1, hk1⟩ | ⟨rfl, hJx1⟩)
  · have hx1 := boxes_kp HX.out hk1
    have hh1 := HH.out.of_same hk1.1
    have hy1 := HYY.out [one N first skip n hN] (two N first skip n hN hn) W1.drew (hd _ _ hJ1) (by simp)
    have e1 : pieceV s (two N first skip n hN hn).1 = .slice (some ⟨s, 0, none⟩) (restOf N first skip n) (restOf N first skip n) := rfl
    rw [e1] at hy1
    obtain ⟨fn2, tmps2, assign2, body2, hy2, hR2⟩ := hy1
    have d0 : W1.cell? ⟨R, 0, none⟩ = some (.pointer (some ⟨b, 0, none⟩)) := hx1.x0.cell 0
    have d3 : W1.cell? ⟨R + 3, 0, none⟩ = some (.int .i64 (restOf N first skip n : Int)) := hx1.x3.cell 0
    have d4 : W1.cell? ⟨b, 1, none⟩ = some (.slice (some ⟨s, 0, none⟩) N N) := hh1.cell 1
    have q2 := fun W => cut_hm W s N (restOf N first skip n) (rest_le hN hn)
    clear hx1 hh1 hk1 hJ1 hy q1 c0 c1 c2 c4 e0 e1 HX HH HYY H hR
    generalize restOf N first skip n = r at *
    gi_wp2
    refine wpIn_region_last 8 (by kernel_rfl) (by kernel_rfl) rfl rfl rfl (by decide +kernel) ?_
    simp only [List.take_succ_cons, List.take_zero]
    repeat still_step
    refine wpStill_nil ?_
    go_simp
    refine hR2.mono ?_
    rintro e W2 (⟨rfl, hJ2, hk2⟩ | ⟨rfl, hJx2⟩)
    · gi_wp2
      go_end0
      exact ⟨⟨_, rfl⟩, .inl ⟨_, rfl, hJ2⟩⟩
    · gi_wp2
      go_end0
      exact ⟨⟨_, rfl⟩, .inr ⟨_, trivial, hJx2⟩⟩
  · gi_wp2
    go_end0
    exact ⟨⟨_, rfl⟩, .inr ⟨_, trivial, hJx1⟩⟩

theorem drew_of_abides {α : Type} {B : Nat} {J : List α → World → Prop} (h : AbidesFrom B J) (pre : List α) (W : World) (hj : J pre W) : J pre W.drew :=
  h pre W W.drew none hj ⟨rfl, rfl, rfl, Nat.le_refl _, fun _ _ _ => rfl⟩ (fun r e => by cases e)

/-- THE ITERATOR's CONTRACT: at each loop body that keeps the ring's head and the boxes: the two pieces, in order. -/
theorem iter_stops (F : Fence) (m : Nat) (h27 : F.fn 27) (hro : F.round = none) (hm : 1 ≤ m) (R b s N first skip n : Nat) (hN : 0 < N) (hN4 : N ≤ 4096) (hn0 : 0 < n) (hn : n ≤ N) (w : World) (v2 v3 : Value)
    (hb : b < w.heap.size) (hR : R + 3 < w.heap.size) (hh : Lies w b 45 #[.pointer (some ⟨b, 0, none⟩), .slice (some ⟨s, 0, none⟩) N N, v2, v3]) (hx : Boxes w R b N first skip n) :
    SeqStopsK F m Try.prog 27 #[.pointer (some ⟨R, 0, none⟩), .pointer (some ⟨R + 1, 0, none⟩), .pointer (some ⟨R + 2, 0, none⟩), .pointer (some ⟨R + 3, 0, none⟩)] (fun x : Pc N => #[pieceV s x.1]) (KpOf b R)
      (fun ys => ys = [one N first skip n hN, two N first skip n hN hn]) (fun _ => True) 2 w := fun l J Jx W hW hJ hJx hY h0 => by
  have hh' : Lies W b 45 #[.pointer (some ⟨b, 0, none⟩), .slice (some ⟨s, 0, none⟩) N N, v2, v3] := hh.below hW hb
  have hx' : Boxes W R b N first skip n := ⟨hx.x0.below hW (by omega), hx.x1.below hW (by omega), hx.x2.below hW (by omega), hx.x3.below hW (by omega)⟩
  exact iter_in F m h27 hro hm l R b s N first skip n hN hN4 hn0 hn J Jx (drew_of_abides hJ) hY W v2 v3 hh' hx' h0

end Go.Proofs.Ythagggclhahikaa.iter
