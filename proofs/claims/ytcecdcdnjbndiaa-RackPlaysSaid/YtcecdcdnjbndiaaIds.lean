/-
  Given for the seat's laws: the function that ids hands back, when it is ranged over, and the contract of IDs. No condition but those of the theorems.
-/
import Derived.Test.YtcecdcdnjbndiaaOps
import Derived.RangeFuncNested
import Derived.RangeFuncBound
import Derived.RangeFuncCalls
import Derived.RangeFuncLeaves
import Derived.RangeFuncBox
import Derived.Shelf.Abstract
import Derived.OwnWalkIn
import Derived.TacticsInMore
import Derived.LoopNIn
import Derived.LoopIn
namespace Go.Proofs.Ytcecdcdnjbndiaa.rack
open Go.RowKit Go.Shelf mem find
set_option linter.unusedVariables false
attribute [local go_sem] Oper.semAt_some

set_option maxHeartbeats 400000 in
theorem ids_any (p : Option Addr) (w : World) : Calls Try.prog 34 #[.pointer p] w fun e w' => e = .returned (.func (.func 41) #[] #[.pointer (some ⟨w.heap.size, 0, none⟩)]) ∧ w' = w.alloc (.cells #[.pointer p] 71) := by
  go_enter Try.func34, Try.ntmps34
  go_wp2
  go_ret
  exact ⟨rfl, rfl⟩

theorem take_snoc {zs : List Int} {k : Nat} {x : Int} (h : zs[k]? = some x) : zs.take (k + 1) = zs.take k ++ [x] := by rw [List.take_add_one, h]; rfl

set_option maxRecDepth 100000 in
set_option maxHeartbeats 2000000 in
theorem ids1_in (F : Fence) (m : Nat) (hF : F.fn 41) (hro : F.round = none) (hm : 1 ≤ m) (l Bt n₀ r c : Nat) (A : Option Addr) (R : List (Int × Int)) (hlen : R.length ≤ 64) (J Jx : List Int → World → Prop) (ha : ∀ pre W o, J pre W → J pre (W.alloc o))
    (hY : ∀ pre x W, J pre W → pre.length < R.length → YieldAt F (m - 1) Try.prog l #[.int .i64 x] W fun e W' =>
      (e = .returned (.bool true) ∧ J (pre ++ [x]) W' ∧ Below n₀ W W') ∨ (e = .returned (.bool false) ∧ Jx (pre ++ [x]) W'))
    (W : World) (hBt : W.cell? ⟨Bt, 0, none⟩ = some (.pointer (some ⟨r, 1, none⟩))) (hrow : W.cell? ⟨r, 2, none⟩ = some (.slice A R.length c)) (hR : RowsAt W A c R) (hAn : ∀ g, rowOf A = some g → g < n₀) (hn₀ : n₀ ≤ W.heap.size) (h0 : J [] W) :
    CallsIn F m Try.prog 41 #[.func (.yield l) #[] #[], .pointer (some ⟨Bt, 0, none⟩)] W fun e W' => (∃ v, e = .returned v) ∧
      ((∃ ys, ys = R.map (·.1) ∧ J ys W') ∨ (∃ pre, True ∧ Jx pre W')) := by
  have HR := Lib.hid hR
  have HA := Lib.hid hAn
  have HYY := Lib.hid hY
  have HJ := Lib.hid ha
  have H0 := Lib.hid h0
  clear hR hAn hY ha h0
  generalize hn : R.length = n at *
  have HN := Lib.hid hn
  clear hn
  refine callsIn_of_wp Try.func41 rfl hF ?_ hro
  simp only [Try.ntmps41, List.size_toArray, List.length_cons, List.length_nil, Nat.reduceAdd, Nat.reduceSub, Array.replicate_succ, Array.replicate_zero, List.push_toArray, List.append_toArray, List.nil_append, List.cons_append]
  gi_wp2
  gi_loopw [10] (fun i wr => ∃ k : Nat, k ≤ n ∧ i = .int .i64 k ∧ Hid (J ((R.map (·.1)).take k) wr) ∧ Hid (Below n₀ W wr)) (fun i _ => n - (intOf i).toNat)
  case atStart => exact ⟨0, Nat.zero_le _, rfl, H0.out, Below.refl _ _⟩
  case round =>
    clear H0
    obtain ⟨k, hk, rfl, hJs, hnx⟩ := hrel
    by_cases hlt : k < n
    · obtain ⟨g, rfl, hgl, hc⟩ := RowsAt.cell HR.out (by rw [HN.out]; omega)
      obtain ⟨x, hx⟩ : ∃ x, R[k]? = some x := ⟨_, List.getElem?_eq_getElem (by rw [HN.out]; omega)⟩
      obtain ⟨c1, c2⟩ := hc _ x hx
      have hgn := HA.out g rfl
      have d1 : wr.cell? ⟨g, k * 2, none⟩ = some (.int .i64 x.1) := (hnx.out.cell (p := ⟨g, k * 2, none⟩) hgn).trans c1
      have d2 : wr.cell? ⟨g, k * 2 + 1, none⟩ = some (.int .i64 x.2) := (hnx.out.cell (p := ⟨g, k * 2 + 1, none⟩) hgn).trans c2
      have hzk : (R.map (·.1))[k]? = some x.1 := by rw [List.getElem?_map, hx]; rfl
      have HZ : Hid ((R.map (·.1)).take (k + 1) = (R.map (·.1)).take k ++ [x.1]) := take_snoc hzk
      have hpl : ((R.map (·.1)).take k).length < n := by rw [List.length_take, List.length_map, HN.out]; omega
      obtain ⟨x1, x2⟩ := x
      dsimp only at d1 d2 HZ
      obtain ⟨fn, tmps, assign, body, hy, hR⟩ := HYY.out _ x1 (wr.alloc (.cells #[.int .i64 x1, .int .i64 x2] 69)) (HJ.out _ _ _ hJs.out) hpl
      have HNX := Lib.hid (hnx.out.trans (((Below.refl n₀ wr).alloc (Nat.le_trans hn₀ hnx.out.size) (.cells #[.int .i64 x1, .int .i64 x2] 69))))
      clear c1 c2 hc hx hzk hpl hnx hJs
      gi_wp2
      refine hR.mono ?_
      rintro e W3 (⟨rfl, hJ3, hk3⟩ | ⟨rfl, hJx3⟩)
      · have HJ3 := Lib.hid hJ3
        have HK3 := Lib.hid hk3
        clear hJ3 hk3
        gi_wp2
        go_roundw
        case rel => exact ⟨k + 1, by omega, by simp, by rw [HZ.out]; exact HJ3.out, HNX.out.trans HK3.out⟩
        case measure => simp [intOf]; omega
      · gi_wp2
        refine bodyPost_ret (results_none rfl _ _ _) rfl ?_
        exact ⟨⟨_, rfl⟩, .inr ⟨_, trivial, hJx3⟩⟩
    · obtain rfl : k = n := by omega
      gi_wp2
      go_end0
      exact ⟨⟨_, rfl⟩, .inl ⟨_, List.take_of_length_le (by rw [List.length_map, HN.out]; exact Nat.le_refl _), hJs.out⟩⟩

theorem abides_alloc {α : Type} {B : Nat} {J : List α → World → Prop} (h : AbidesFrom B J) (pre : List α) (W : World) (o : Obj) (hj : J pre W) : J pre (W.alloc o) :=
  h pre W _ none hj (World.grownBy_alloc W o none) (fun r e => by cases e)

theorem ids1_stops (F : Fence) (m : Nat) (hF : F.fn 41) (hro : F.round = none) (hm : 1 ≤ m) (Bt n₀ r c : Nat) (A : Option Addr) (R : List (Int × Int)) (hlen : R.length ≤ 64) (w : World) (hn₀ : n₀ ≤ w.heap.size)
    (hBt : w.cell? ⟨Bt, 0, none⟩ = some (.pointer (some ⟨r, 1, none⟩))) (hBl : Bt < w.heap.size) (hrl : r < w.heap.size) (hrow : w.cell? ⟨r, 2, none⟩ = some (.slice A R.length c)) (hR : RowsAt w A c R) (hAn : ∀ g, rowOf A = some g → g < n₀) :
    SeqStopsK F m Try.prog 41 #[.pointer (some ⟨Bt, 0, none⟩)] (fun x : Int => #[.int .i64 x]) (Below n₀) (fun ys => ys = R.map (·.1)) (fun _ => True) R.length w := fun l J Jx W hW hJ hJx hY h0 =>
  ids1_in F m hF hro hm l Bt n₀ r c A R hlen J Jx (abides_alloc hJ) hY W ((hW.cell (p := ⟨Bt, 0, none⟩) hBl).trans hBt) ((hW.cell (p := ⟨r, 2, none⟩) hrl).trans hrow)
    (RowsAt.keep hR (Keep.of_below hW (fun _ => False)) (Nat.le_refl _) (fun _ _ hf => hf)) hAn (Nat.le_trans hn₀ hW.size) h0

end Go.Proofs.Ytcecdcdnjbndiaa.rack
