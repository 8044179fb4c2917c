/-
  Given for the seat's laws: pieces of a slice of bytes. No condition but those of the theorems.
-/
import Derived.Test.YtmmohapcniigfaaPAwake
namespace Go.Proofs.Ytmmohapcniigfaa.sp
open Go.RowKit mem
set_option linter.unusedVariables false

theorem cut_lh (W : World) (A : Option Addr) (n c k j : Nat) (h1 : k ≤ j) (h2 : j ≤ c) :
    (Instr.slice 23 (.slice A n c) (some (.int .i64 (k : Int))) (some (.int .i64 (j : Int))) none).run Try.prog W = .ok (.slice (cutA A c k) (j - k) (c - k)) W := by
  obtain ⟨i0, hi, hz0, hz1, hz2⟩ := info_parts (show (Try.prog.info? 5).map (fun i => (i.zero, i.size, i.bytes)) = some (some (.int .u8 0), 1, 1) by kernel_rfl)
  rw [run_slice_lh W 23 _ n c (by kernel_rfl) .i64 .i64 _ _ (by omega) (by omega) (by omega)]
  have he : Try.prog.elem 23 = 5 := by kernel_rfl
  rw [he]
  have hs : (sizeOf 5).run Try.prog W = .ok 1 W := by simp [sizeOf, typeInfo, hi, hz1]
  rw [hs]
  simp only [Result.andThen, sliced, Int.toNat_natCast, Nat.mul_one]
  rfl
theorem cut_h (W : World) (A : Option Addr) (n c j : Nat) (h2 : j ≤ c) (hA : A = none → c = 0) :
    (Instr.slice 23 (.slice A n c) none (some (.int .i64 (j : Int))) none).run Try.prog W = .ok (.slice A j c) W := by
  obtain ⟨i0, hi, hz0, hz1, hz2⟩ := info_parts (show (Try.prog.info? 5).map (fun i => (i.zero, i.size, i.bytes)) = some (some (.int .u8 0), 1, 1) by kernel_rfl)
  rw [run_slice_h W 23 _ n c (by kernel_rfl) .i64 _ (by omega) (by omega)]
  have he : Try.prog.elem 23 = 5 := by kernel_rfl
  rw [he]
  have hs : (sizeOf 5).run Try.prog W = .ok 1 W := by simp [sizeOf, typeInfo, hi, hz1]
  rw [hs]
  simp only [Result.andThen, sliced, Int.toNat_natCast, Nat.mul_one]
  cases A with
  | none => simp [hA rfl]
  | some a => by_cases hc : c = 0 <;> simp [hc, Addr.add]
end Go.Proofs.Ytmmohapcniigfaa.sp
