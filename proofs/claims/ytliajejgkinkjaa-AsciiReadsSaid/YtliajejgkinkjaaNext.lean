/-
  Given for the seat's laws: the contract of the reader's next, at whatever function takes what is read. No condition but those of the theorems.
-/
import Derived.Test.YtliajejgkinkjaaReader
namespace Go.Proofs.Ytliajejgkinkjaa.reader
open Go.RowKit mem
set_option linter.unusedVariables false

theorem cut_run (W : World) (A : Option Addr) (n c k j : Nat) (h : k + j ≤ c) :
    (Instr.slice 25 (.slice A n c) (some (.int .i64 (k : Int))) (some (.int .i64 ((k : Int) + (j : Int)))) none).run Try.prog W = .ok (.slice (cutA A c k) j (c - k)) W := by
  obtain ⟨i0, hi, hz0, hz1, hz2⟩ := info_parts (show (Try.prog.info? 5).map (fun i => (i.zero, i.size, i.bytes)) = some (some (.int .u8 0), 1, 1) by kernel_rfl)
  rw [run_slice_lh W 25 _ n c (by kernel_rfl) .i64 .i64 _ _ (by omega) (by omega) (by omega)]
  have he : Try.prog.elem 25 = 5 := by kernel_rfl
  rw [he]
  have hs : (sizeOf 5).run Try.prog W = .ok 1 W := by simp [sizeOf, typeInfo, hi, hz1]
  rw [hs]
  have e1 : ((k : Int) + (j : Int)).toNat = k + j := by omega
  simp only [Result.andThen, sliced, Int.toNat_natCast, Nat.mul_one, e1, Nat.add_sub_cancel_left]
  rfl

set_option maxHeartbeats 400000 in
theorem next_neg {B r : Nat} {A : Option Addr} {n c : Nat} {xs : List Int} {k : Nat} (w : World) (h : Has w B r A n c xs k) (j : Int) (hj : j < 0) (f : Value) :
    Calls Try.prog 26 #[.pointer (some ⟨r, 0, none⟩), .int .i64 j, f] w fun e w' => e = .returned (.int .i64 2) ∧ w = w' := by
  clear h
  go_enter Try.func26, Try.ntmps26
  go_wp2
  go_ret
  exact ⟨rfl, rfl⟩

set_option maxHeartbeats 400000 in
theorem next_more {B r : Nat} {A : Option Addr} {n c : Nat} {xs : List Int} {k : Nat} (w : World) (h : Has w B r A n c xs k) (j : Int) (hj0 : 0 ≤ j) (hj : (n : Int) - (k : Int) < j) (f : Value) :
    Calls Try.prog 26 #[.pointer (some ⟨r, 0, none⟩), .int .i64 j, f] w fun e w' => e = .returned (.int .i64 5) ∧ Still w w' := by
  have HL := Lib.hid (left_has w h)
  have hk := h.le
  have hn := h.small
  clear h
  go_enter Try.func26, Try.ntmps26
  go_wp2_with fail
  refine HL.out.mono ?_
  rintro e w' ⟨rfl, hst⟩
  go_wp2
  go_ret
  exact ⟨rfl, hst⟩

/-- a function of the program's own is entered -/
theorem enters {f : FuncId} {fn : Func} (hf : Try.prog.funcs[f]? = some fn) (h1 : (fn.name == "runtime.NumGoroutine") = false) (h2 : fn.body.isNone = false) (args : Array Value) (W : World) :
    (callFunc f args).run Try.prog W = .ok (.enter f args) W := by
  have h3 : ¬ fn.name = "runtime.NumGoroutine" := by simpa using h1
  have h4 : ¬ fn.body = none := fun e => by rw [e] at h2; cases h2
  simp [callFunc, hf, h3, h4]

set_option maxHeartbeats 1000000 in
theorem next_ok {B r : Nat} {A : Option Addr} {n c : Nat} {xs : List Int} {k : Nat} (w : World) (h : Has w B r A n c xs k) (j : Nat) (hj : k + j ≤ n) (fn : FuncId) (caps : Array Value) (P : World → Prop)
    (hcf : ∀ (args : Array Value) (W : World), (callFunc fn args).run Try.prog W = .ok (.enter fn args) W)
    (hf : ∀ W, Still w W → Calls Try.prog fn (#[.slice (cutA A c k) j (c - k)] ++ caps) W fun e w' => e = .returned (.tuple #[]) ∧ w'.heap[r]? = w.heap[r]? ∧ P w') :
    Calls Try.prog 26 #[.pointer (some ⟨r, 0, none⟩), .int .i64 (j : Int), .func (.func fn) #[] caps] w fun e w' => e = .returned (.int .i64 0) ∧ ∃ w1, P w1 ∧ w1.heap[r]? = w.heap[r]? ∧ w' = w1.setCell ⟨r, 1, none⟩ (.int .i64 ((k + j : Nat) : Int)) := by
  have HL := Lib.hid (left_has w h)
  have hk := h.le
  have hn := h.small
  have hc := h.src.cap
  have c0 := h.head.cell 0
  have c1 := h.head.cell 1
  have HC := Lib.hid (fun W => cut_run W A n c k j (by omega))
  have HF := Lib.hid hf
  have HH := Lib.hid h.head
  have hw1 : IntKind.i64.wrap ((k : Int) + (j : Int)) = (k : Int) + (j : Int) := IntWalk.i64_in _ (by omega)
  clear hf h
  go_enter Try.func26, Try.ntmps26
  go_wp2_with fail
  refine HL.out.mono ?_
  rintro e w2 ⟨rfl, hst⟩
  have d0 : w2.cell? ⟨r, 0, none⟩ = some (.slice A n c) := (hst.cell _).trans c0
  have d1 : w2.cell? ⟨r, 1, none⟩ = some (.int .i64 (k : Int)) := (hst.cell _).trans c1
  have HST := Lib.hid hst
  clear c0 c1 hst
  go_wp2_with fail
  have hcut := HC.out
  go_still_tail 16, (by kernel_rfl)
  change wpList _ _ _ _ _ w2.drew
  have hst3 : Still w w2.drew := HST.out.trans (Still.drew1 _)
  generalize w2.drew = w3 at *
  have HS3 := Lib.hid hst3
  clear hst3
  go_wp2_with fail
  refine (HF.out _ HS3.out).mono ?_
  rintro e w4 ⟨rfl, hr4, hP⟩
  have e1 : w4.cell? ⟨r, 1, none⟩ = some (.int .i64 (k : Int)) := (HH.out.of_same hr4).cell 1
  have e2 : w4.frozen? ⟨r, 1, none⟩ = false := (HH.out.of_same hr4).frozen 1
  have HR4 := Lib.hid hr4
  have HP := Lib.hid hP
  clear hr4 hP d0 d1 hcut
  go_wp2
  go_ret
  exact ⟨rfl, w4, HP.out, HR4.out, rfl⟩

end Go.Proofs.Ytliajejgkinkjaa.reader
