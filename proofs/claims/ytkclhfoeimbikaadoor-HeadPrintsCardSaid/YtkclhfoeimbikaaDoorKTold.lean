/-
  Given for the seat's laws: the contracts of the law's many, told, awake. No condition but those of the theorems.
-/
import Derived.Test.YtkclhfoeimbikaaDoorKFld
namespace Go.Proofs.YtkclhfoeimbikaaDoor.hd
open Go.RowKit mem
set_option linter.unusedVariables false

set_option maxHeartbeats 1000000 in
theorem many_any (n : Nat) (hn : n ≤ 1000) (w : World) : Calls Tryd.prog 33 #[.int .i64 (n : Int)] w (Gives (.string (S (List.replicate n 65))) w) := by
  have H0 := Bx.mk (made_nil w)
  go_enter Tryd.func33, Tryd.ntmps33
  go_wp2_with fail
  go_loopw [3, 4] (fun s3 s4 wr => ∃ (i : Nat) (A : Option Addr) (c : Nat), i ≤ n ∧ s3 = .slice A i c ∧ s4 = .int .i64 (i : Int) ∧ Bx (Made w wr (.slice A i c) (List.replicate i 65))) (fun s3 s4 _ => n - (intOf s4).toNat)
  case atStart => exact ⟨0, none, 0, by omega, rfl, rfl, H0⟩
  case round =>
    clear H0
    obtain ⟨i, A, c, hi, rfl, rfl, HM⟩ := hrel
    by_cases hlt : i < n
    · obtain ⟨A2, c2, w2, happ, hm⟩ := HM.out.push (by simp; omega) 65
      simp only [List.length_replicate] at happ hm
      have HAP := Bx.mk happ
      have e : List.replicate i (65 : UInt8) ++ [65] = List.replicate (i + 1) 65 := by rw [List.replicate_succ']
      rw [e] at hm
      have HM2 := Bx.mk hm
      have i1 : (i : Int) < (n : Int) := by omega
      clear happ hm e HM
      go_wp2_with (at_builtin; refine wpList_append_eq rfl _ _ rfl rfl rfl rfl HAP.out ?_)
      go_roundw
      case rel => exact ⟨i + 1, A2, c2, by omega, rfl, by go_num, HM2⟩
      case measure => simp [intOf]; omega
    · obtain rfl : i = n := by omega
      have hst := spell_str (made_spell HM.out (by simp))
      go_wp2_with fail
      exact bodyPost_ret (v := .string (S (List.replicate i 65))) (by simp [results, Tryd.results33, go_sem]) rfl ⟨rfl, HM.out.below⟩
/-- what was told, as an error -/
theorem take_e {s : Str} {e : Nat} (h : take s = ([], [], 0, e)) {w w' : World} {en : Ending} (ht : TakeTo (take s) w en w') : ∃ A c, en = .returned (.tuple #[.agg #[.string ⟨#[]⟩, .slice A (0 : Nat) c], .int .i64 0, .int .i64 (e : Int)]) ∧ Below w.heap.size w w' := by
  rw [h] at ht
  obtain ⟨v, rfl, hr, hb⟩ := ht
  obtain ⟨A, c, rfl⟩ := rowF_form hr
  exact ⟨A, c, rfl, hb⟩
set_option maxHeartbeats 2000000 in
theorem told_any (s : Str) (e : Nat) (h : take s = ([], [], 0, e)) (hl : s.length ≤ 100000) (w : World) : Calls Tryd.prog 24 #[.int .i64 (e : Int), .string (S s)] w (True_ w) := by
  have hconv := conv_any (S s) w
  rw [S_size] at hconv
  have hr := conv_row s w (by omega)
  have hb := conv_below (S s) w
  generalize Lib.bytesWorld w 5 (S s) = W0 at *
  generalize grownCap w s.length 0 5 = c at *
  have HT := Bx.mk (take_any (hr.spell rfl) (fun g hg => hg) hl)
  have HB := Bx.mk hb
  have HH := Bx.mk h
  obtain ⟨n, hn⟩ : ∃ n, s.length = n := ⟨_, rfl⟩
  rw [hn] at hconv HT
  have hee : ((e : Int) == (e : Int)) = true := by simp
  clear hr hb h hl hn
  go_enter Tryd.func24, Tryd.ntmps24
  go_wp2_with fail
  refine HT.out.mono ?_
  intro en w2 ht
  obtain ⟨A, d, rfl, hb2⟩ := take_e HH.out ht
  have L := Lies.new w2 25 #[.string ⟨#[]⟩, .slice A (0 : Nat) d]
  have hb3 := (HB.out.trans (hb2.mono HB.out.size))
  have HB3 := Bx.mk (hb3.alloc hb3.size (.cells #[.string ⟨#[]⟩, .slice A (0 : Nat) d] 25))
  clear ht hb2 hb3 HB HT HH
  go_wp2_with fail
  exact bodyPost_ret (v := .bool true) (by simp [results, Tryd.results24, go_sem]) rfl ⟨rfl, HB3.out⟩
end Go.Proofs.YtkclhfoeimbikaaDoor.hd
