/-
  Given for the seat's laws: the function that own hands back, when it is ranged over: it writes the rack's next own id between two rounds. No condition but those of the theorems.
-/
import Derived.Test.YtcecdcdnjbndiaaRange
import Derived.Test.YtcecdcdnjbndiaaReg
namespace Go.Proofs.Ytcecdcdnjbndiaa.rack
open Go.RowKit Go.Shelf mem find reg
set_option linter.unusedVariables false
attribute [local go_sem] Oper.semAt_some

set_option maxHeartbeats 400000 in
theorem own_any (p : Option Addr) (w : World) : Calls Try.prog 28 #[.pointer p] w fun e w' => e = .returned (.func (.func 35) #[] #[.pointer (some ⟨w.heap.size, 0, none⟩)]) ∧ w' = w.alloc (.cells #[.pointer p] 23) := by
  go_enter Try.func28, Try.ntmps28
  go_wp2
  go_ret
  exact ⟨rfl, rfl⟩

def nextOf (r : Nat) (W : World) : Int := match W.cell? ⟨r, 3, none⟩ with | some (.int _ n) => n | _ => 0
theorem nextOf_eq {r : Nat} {W : World} {n : Int} (h : W.cell? ⟨r, 3, none⟩ = some (.int .i64 n)) : nextOf r W = n := by unfold nextOf; rw [h]

theorem firm_set {B : Nat} {R : World → Prop} (hR : Firm B R) {W : World} (hr : R W) (p : Addr) (v : Value) : R (W.setCell p v).drew :=
  hR W _ (((KeepsOthers.setCell W p v).trans (KeepsOthers.drew _)).from B) hr

set_option maxRecDepth 100000 in
set_option maxHeartbeats 2000000 in
theorem own1_seq (F : Fence) (m : Nat) (hF : F.fn 35) (hro : F.round = none) (hm : 1 ≤ m) (B Bo r : Nat) (nx st : Int) (h1 : 1 ≤ nx) (h2 : nx ≤ 1099511627775 + 1000) (h3 : 1 ≤ st) (h4 : st ≤ 1000) (I Y : Nat → World → Prop) (Ix Fin : World → Prop)
    (hhead : ∀ k W, I k W → ∃ v0 v1 v2, Lies W r 52 #[v0, v1, v2, .int .i64 (nx + (k : Int) * st), .int .i64 st] ∧ W.cell? ⟨Bo, 0, none⟩ = some (.pointer (some ⟨r, 0, none⟩)))
    (hstep : ∀ k W, I k W → nx + (k : Int) * st ≤ 1099511627775 → Y k (W.setCell ⟨r, 3, none⟩ (.int .i64 (nx + ((k + 1 : Nat) : Int) * st))).drew)
    (hfin : ∀ k W, I k W → 1099511627775 < nx + (k : Int) * st → Fin W) :
    SeqW F m Try.prog 35 #[.pointer (some ⟨Bo, 0, none⟩)] (fun k => #[.int .i64 (nx + (k : Int) * st)]) B I Y Ix Fin := fun l R Rx W hR hRx hBW h0 hr hY => by
  have HH := Lib.hid hhead
  have HS := Lib.hid hstep
  have HF := Lib.hid hfin
  have HYY := Lib.hid hY
  have HR := Lib.hid hR
  have H0 := Lib.hid h0
  have HR0 := Lib.hid hr
  clear hhead hstep hfin hY hR hRx h0 hr
  refine callsIn_of_wp Try.func35 rfl hF ?_ hro
  simp only [Try.ntmps35, List.size_toArray, List.length_cons, List.length_nil, Nat.reduceAdd, Nat.reduceSub, Array.replicate_succ, Array.replicate_zero, List.push_toArray, List.append_toArray, List.nil_append, List.cons_append]
  gi_wp2
  gi_loopw [3] (fun s3 wr => ∃ k : Nat, Hid (I k wr) ∧ Hid (R wr)) (fun s3 wr => (1099511627776 - nextOf r wr).toNat)
  case atStart => exact ⟨0, H0.out, HR0.out⟩
  case round =>
    clear H0 HR0
    obtain ⟨k, hI, hRR⟩ := hrel
    obtain ⟨v0, v1, v2, hl, cb⟩ := HH.out k wr hI.out
    obtain ⟨y, hy⟩ : ∃ y, y = nx + (k : Int) * st := ⟨_, rfl⟩
    have c3 : wr.cell? ⟨r, 3, none⟩ = some (.int .i64 y) := by rw [hy]; exact hl.cell 3
    have c4 : wr.cell? ⟨r, 4, none⟩ = some (.int .i64 st) := hl.cell 4
    have f3 := hl.frozen 3
    have hnn := nextOf_eq c3
    have hypos : 1 ≤ y := by
      rw [hy]
      have : 0 ≤ (k : Int) * st := Int.mul_nonneg (by omega) (by omega)
      omega
    by_cases hle : y ≤ 1099511627775
    · have hst := HS.out k wr hI.out (by rw [← hy]; exact hle)
      have hy1 : nx + ((k + 1 : Nat) : Int) * st = y + st := by
        rw [hy, show ((k + 1 : Nat) : Int) = (k : Int) + 1 by omega, Int.add_mul]; omega
      rw [hy1] at hst
      have hrr := firm_set HR.out hRR.out ⟨r, 3, none⟩ (.int .i64 (y + st))
      obtain ⟨fn, tmps, assign, body, hyy, hRd⟩ := HYY.out k _ hst hrr
      rw [← hy] at hyy
      have HN := Lib.hid hnn
      have HY := Lib.hid hy
      have HY1 := Lib.hid hy1
      have hw : IntKind.i64.wrap (y + st) = y + st := IntWalk.i64_in _ (by omega)
      clear hl hst hrr hI hRR hnn hy hy1
      gi_wp2
      refine wpIn_region_last 11 (by kernel_rfl) (by kernel_rfl) rfl rfl rfl (by decide +kernel) ?_
      simp only [List.take_succ_cons, List.take_zero]
      repeat still_step
      refine wpStill_nil ?_
      go_simp
      gi_wp2
      refine hRd.mono ?_
      rintro e W3 (⟨rfl, hI3, hR3⟩ | ⟨rfl, hX3, hR3⟩)
      · obtain ⟨v0', v1', v2', hl3, cb3⟩ := HH.out (k + 1) W3 hI3
        have hn3 : nextOf r W3 = y + st := by rw [← HY1.out]; exact nextOf_eq (hl3.cell 3)
        have HN3 := Lib.hid hn3
        have HI3 := Lib.hid hI3
        have HR3 := Lib.hid hR3
        clear hl3 cb3 hn3 hI3 hR3
        gi_wp2
        go_roundw
        case rel => exact ⟨k + 1, HI3, HR3⟩
        case measure => rw [HN3.out, HN.out]; omega
      · gi_wp2
        refine bodyPost_ret (results_none rfl _ _ _) rfl ?_
        exact ⟨⟨_, rfl⟩, .inr ⟨hX3, hR3⟩⟩
    · have hfin := HF.out k wr hI.out (by rw [← hy]; omega)
      have HFIN := Lib.hid hfin
      clear hfin hl hI hnn hy
      gi_wp2
      go_end0
      exact ⟨⟨_, rfl⟩, .inl ⟨HFIN.out, hRR.out⟩⟩

end Go.Proofs.Ytcecdcdnjbndiaa.rack
