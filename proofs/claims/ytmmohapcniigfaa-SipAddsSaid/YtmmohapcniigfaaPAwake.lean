/-
  Given for the seat's laws: the chapter's examples. No condition.
-/
import Derived.Test.YtmmohapcniigfaaPSums
namespace Go.Proofs.Ytmmohapcniigfaa.sp
open Go.RowKit mem
set_option linter.unusedVariables false

/-- the bytes 0, 1, .. -/
def upto (i : Nat) : Str := (List.range i).map UInt8.ofNat
theorem upto_len (i : Nat) : (upto i).length = i := by simp [upto]
theorem upto_succ (i : Nat) : upto (i + 1) = upto i ++ [UInt8.ofNat i] := by simp [upto, List.range_succ]

theorem sum_ex0 (W : World) : Calls Try.prog 6 #[.int .u64 506097522914230528, .int .u64 1084818905618843912, .slice none 0 0] W fun e w' => e = .returned (.int .u64 8246050544436514353) ∧ Below W.heap.size W w' := by
  have h := sum_any (ok := fun g => g < W.heap.size) (mk 506097522914230528) (mk 1084818905618843912) (show Spell W (fun g => g < W.heap.size) none 0 0 [] from Src.nil W _) (fun _ h => h)
  unfold SumTo at h
  rw [ex_none] at h
  exact h
theorem sum_ex1 {W : World} {ok : Nat → Prop} {A : Option Addr} {n c : Nat} (hn : n = 15) (hs : Spell W ok A n c (upto 15)) (hok : ∀ g, ok g → g < W.heap.size) : Calls Try.prog 6 #[.int .u64 506097522914230528, .int .u64 1084818905618843912, .slice A n c] W fun e w' => e = .returned (.int .u64 11613035633349379557) ∧ Below W.heap.size W w' := by
  have h := sum_any (mk 506097522914230528) (mk 1084818905618843912) hs hok
  unfold SumTo at h
  have e : upto 15 = [0, 1, 2, 3, 4, 5, 6, 7, 8, 9, 10, 11, 12, 13, 14] := by decide +kernel
  rw [e, ex_some] at h
  exact h
theorem u8_of {i : Nat} (h : i < 256) : IntKind.u8.wrap (i : Int) = ((UInt8.ofNat i).toNat : Int) := by
  rw [IntKind.wrap_u8']
  simp

set_option maxHeartbeats 4000000 in
set_option maxRecDepth 100000 in
theorem awake_any (w : World) : Calls Try.prog 11 #[] w (True_ w) := by
  have h0 : Hid (Made w w (.slice none (upto 0).length 0) (upto 0)) := Lib.hid ⟨own_none w _ _, Below.refl _ _⟩
  have S0 := Lib.hid sum_ex0
  go_enter Try.func11, Try.ntmps11
  go_wp2
  go_loopw [1, 2] (fun s1 s2 wr => ∃ (i : Nat) (A' : Option Addr) (c' : Nat), i ≤ 15 ∧ s1 = .slice A' i c' ∧ s2 = .int .i64 (i : Int) ∧ Hid (Made w wr (.slice A' i c') (upto i))) (fun _ s2 _ => 15 - (intOf s2).toNat)
  case atStart => exact ⟨0, none, 0, by omega, rfl, rfl, h0⟩
  case round =>
    clear h0
    obtain ⟨i, A', c', hi, rfl, rfl, HM⟩ := hrel
    by_cases hlt : i < 15
    · obtain ⟨A2, c2, w2, happ, hmd⟩ := HM.out.push (by rw [upto_len]; omega) (UInt8.ofNat i)
      rw [upto_len] at happ hmd
      rw [← upto_succ] at hmd
      have h8 := u8_of (i := i) (by omega)
      generalize UInt8.ofNat i = z at happ h8
      have hzb := z.toNat_lt
      have hz2 : (z.toNat : Int) = (i : Int) := by rw [← h8, IntKind.wrap_u8']; omega
      have happ' : (Builtin.append_ #[23, 23] 23 #[.slice A' i c', .slice (some ⟨wr.heap.size, 0, none⟩) 1 1]).run Try.prog (wr.alloc (.cells #[.int .u8 (i : Int)] 5)) = .ok (.slice A2 (i + 1) c2) w2 := by rw [← hz2]; exact happ
      have HAp := Lib.hid happ'
      have HMd := Lib.hid hmd
      clear happ happ' hmd h8 hz2 hzb
      go_wp2_with (at_builtin; refine wpList_app rfl _ _ rfl rfl rfl rfl HAp.out ?_)
      go_roundw
      case rel => exact ⟨i + 1, A2, c2, by omega, rfl, by go_num, HMd⟩
      case measure => simp [intOf]; omega
    · obtain rfl : i = 15 := by omega
      have hb15 := HM.out.below
      have HB := Lib.hid hb15
      have hsp := made_spell HM.out (upto_len 15)
      have HS := Lib.hid hsp
      clear hsp hb15
      go_wp2_with fail
      refine (S0.out _).mono ?_
      rintro e w2 ⟨rfl, hb2⟩
      have HS1 := Lib.hid (sum_ex1 rfl ((HS.out.below hb2 (fun g h => h)).weak (fun g h => Nat.lt_of_lt_of_le h hb2.size)) (fun g h => h))
      have HB2 := Lib.hid (HB.out.trans (hb2.mono HB.out.size))
      clear hb2
      go_wp2_with fail
      refine HS1.out.mono ?_
      rintro e w3 ⟨rfl, hb3⟩
      have HB3 := Lib.hid (HB2.out.trans (hb3.mono HB2.out.size))
      clear hb3
      go_wp2_with fail
      go_ret
      exact ⟨rfl, HB3.out⟩
end Go.Proofs.Ytmmohapcniigfaa.sp
