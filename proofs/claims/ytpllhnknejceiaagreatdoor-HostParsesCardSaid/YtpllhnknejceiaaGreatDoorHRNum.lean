/-
  Given for the seat's laws: the document's own answers: a number's digits to a base. No condition but those of the theorems.
-/
import Derived.Test.YtpllhnknejceiaaGreatDoorHText
namespace Go.Proofs.YtpllhnknejceiaaGreatDoor.hw
open Go.RowKit mem hostp
set_option linter.unusedVariables false

theorem hexdig (W : World) (d : Nat) (hd : d < 16) : (Instr.index 9 (.string ⟨#[48, 49, 50, 51, 52, 53, 54, 55, 56, 57, 97, 98, 99, 100, 101, 102]⟩) (.int .i64 (d : Int))).run Tryz.prog W = .ok (.int .u8 (((dg d).toNat : Nat) : Int)) W := by
  rw [run_index_string (P := Tryz.prog) W 9 _ .i64 (d : Int) Tryz.underlying9, dif_pos ⟨by omega, by show (d : Int) < 16; omega⟩]
  congr 3
  have h : d = 0 ∨ d = 1 ∨ d = 2 ∨ d = 3 ∨ d = 4 ∨ d = 5 ∨ d = 6 ∨ d = 7 ∨ d = 8 ∨ d = 9 ∨ d = 10 ∨ d = 11 ∨ d = 12 ∨ d = 13 ∨ d = 14 ∨ d = 15 := by omega
  rcases h with rfl | rfl | rfl | rfl | rfl | rfl | rfl | rfl | rfl | rfl | rfl | rfl | rfl | rfl | rfl | rfl <;> rfl
/-- one byte as a text -/
theorem one_byte (W : World) (c : UInt8) (g cap : Nat) (h : W.cell? ⟨g, 0, none⟩ = some (.int .u8 ((c.toNat : Nat) : Int))) : (convert 69 9 (.slice (some ⟨g, 0, none⟩) 1 cap)).run Tryz.prog W = .ok (.string (S [c])) W :=
  run_convert_bytes_back (P := Tryz.prog) W 69 9 5 ⟨g, 0, none⟩ cap [c] Tryz.underlying69 Tryz.underlying5 Tryz.underlying9 (fun j hj => by
    obtain rfl : j = 0 := by simpa using hj
    simpa [Addr.add] using h)

set_option maxRecDepth 100000 in
set_option maxHeartbeats 4000000 in
theorem number10_any (n : Nat) : n ≤ 1000000 → ∀ w : World, Calls Tryz.prog 53 #[.int .i64 (n : Int), .int .i64 10] w (Gives (.string (S (nm 10 n))) w) := by
  induction n using Nat.strongRecOn with
  | ind n ih =>
    intro hn w
    have hm : n % 10 < 16 := by omega
    have hrem : ((n % 10 : Nat) : Int) = (n : Int) % 10 := by omega
    have hix := fun W => hexdig W (n % 10) hm
    simp only [hrem] at hix
    have hone := fun W => one_byte W (dg (n % 10)) w.heap.size 1
    obtain ⟨d, hd⟩ : ∃ d : Int, d = (((dg (n % 10)).toNat : Nat) : Int) := ⟨_, rfl⟩
    simp only [← hd] at hix hone
    have hcv := hone (w.alloc (.cells #[.int .u8 d] 5)) ((Lies.new w 5 #[.int .u8 d]).cell 0)
    have HB1 := Lib.hid ((Below.refl _ w).alloc (Nat.le_refl _) (.cells #[.int .u8 d] 5))
    have h16 : (n : Int) % 10 < 16 := by omega
    have h00 : (0 : Int) ≤ (n : Int) % 10 := by omega
    by_cases hlt : n < 10
    · have HF := Lib.hid (show S [dg (n % 10)] = S (nm 10 n) by rw [nm_small hlt, Nat.mod_eq_of_lt hlt])
      generalize S [dg (n % 10)] = x at hcv HF
      have hc : (n : Int) < 10 := by omega
      clear ih hone hd hrem hm
      go_enter Tryz.func53, Tryz.ntmps53
      go_wp2
      go_ret
      exact ⟨by rw [← HF.out]; rfl, HB1.out⟩
    · have hq : (n : Int) / 10 = ((n / 10 : Nat) : Int) := by omega
      have HI := Lib.hid (fun W => ih (n / 10) (by omega) (by omega) W)
      have hlen := nm_len (b := 10) (by omega) 6 (n / 10) (by omega)
      have hst := nm_step (b := 10) (by omega) hlt
      have a1 : ∀ W, (Op.stringOp .add (S (nm 10 (n / 10))) (S [dg (n % 10)])).run Tryz.prog W = .ok (.string (S (nm 10 n))) W := fun W => by rw [add_str W _ _ (by omega) (by simp), ← hst]
      have hwr : wrap64 (((n / 10 : Nat) : Int)) = ((n / 10 : Nat) : Int) := by unfold wrap64; omega
      generalize S (nm 10 n) = res at a1 ⊢
      generalize S (nm 10 (n / 10)) = y at a1 HI
      generalize S [dg (n % 10)] = x at hcv a1
      obtain ⟨q, hqq⟩ : ∃ q : Nat, q = n / 10 := ⟨_, rfl⟩
      rw [← hqq] at hq HI hwr
      have hc : ¬ (n : Int) < 10 := by omega
      clear ih hone hd hrem hm hlen hst hqq
      go_enter Tryz.func53, Tryz.ntmps53
      go_wp2_with fail
      refine (HI.out _).mono ?_
      rintro e w2 ⟨rfl, hb2⟩
      have HB2 := Lib.hid (HB1.out.trans (hb2.mono HB1.out.size))
      clear hb2
      go_wp2
      go_ret
      exact ⟨rfl, HB2.out⟩

set_option maxRecDepth 100000 in
set_option maxHeartbeats 4000000 in
theorem number16_any (n : Nat) : n ≤ 1000000 → ∀ w : World, Calls Tryz.prog 53 #[.int .i64 (n : Int), .int .i64 16] w (Gives (.string (S (nm 16 n))) w) := by
  induction n using Nat.strongRecOn with
  | ind n ih =>
    intro hn w
    have hm : n % 16 < 16 := by omega
    have hrem : ((n % 16 : Nat) : Int) = (n : Int) % 16 := by omega
    have hix := fun W => hexdig W (n % 16) hm
    simp only [hrem] at hix
    have hone := fun W => one_byte W (dg (n % 16)) w.heap.size 1
    obtain ⟨d, hd⟩ : ∃ d : Int, d = (((dg (n % 16)).toNat : Nat) : Int) := ⟨_, rfl⟩
    simp only [← hd] at hix hone
    have hcv := hone (w.alloc (.cells #[.int .u8 d] 5)) ((Lies.new w 5 #[.int .u8 d]).cell 0)
    have HB1 := Lib.hid ((Below.refl _ w).alloc (Nat.le_refl _) (.cells #[.int .u8 d] 5))
    have h16 : (n : Int) % 16 < 16 := by omega
    have h00 : (0 : Int) ≤ (n : Int) % 16 := by omega
    by_cases hlt : n < 16
    · have HF := Lib.hid (show S [dg (n % 16)] = S (nm 16 n) by rw [nm_small hlt, Nat.mod_eq_of_lt hlt])
      generalize S [dg (n % 16)] = x at hcv HF
      have hc : (n : Int) < 16 := by omega
      clear ih hone hd hrem hm
      go_enter Tryz.func53, Tryz.ntmps53
      go_wp2
      go_ret
      exact ⟨by rw [← HF.out]; rfl, HB1.out⟩
    · have hq : (n : Int) / 16 = ((n / 16 : Nat) : Int) := by omega
      have HI := Lib.hid (fun W => ih (n / 16) (by omega) (by omega) W)
      have hlen := nm_len (b := 16) (by omega) 6 (n / 16) (by omega)
      have hst := nm_step (b := 16) (by omega) hlt
      have a1 : ∀ W, (Op.stringOp .add (S (nm 16 (n / 16))) (S [dg (n % 16)])).run Tryz.prog W = .ok (.string (S (nm 16 n))) W := fun W => by rw [add_str W _ _ (by omega) (by simp), ← hst]
      have hwr : wrap64 (((n / 16 : Nat) : Int)) = ((n / 16 : Nat) : Int) := by unfold wrap64; omega
      generalize S (nm 16 n) = res at a1 ⊢
      generalize S (nm 16 (n / 16)) = y at a1 HI
      generalize S [dg (n % 16)] = x at hcv a1
      obtain ⟨q, hqq⟩ : ∃ q : Nat, q = n / 16 := ⟨_, rfl⟩
      rw [← hqq] at hq HI hwr
      have hc : ¬ (n : Int) < 16 := by omega
      clear ih hone hd hrem hm hlen hst hqq
      go_enter Tryz.func53, Tryz.ntmps53
      go_wp2_with fail
      refine (HI.out _).mono ?_
      rintro e w2 ⟨rfl, hb2⟩
      have HB2 := Lib.hid (HB1.out.trans (hb2.mono HB1.out.size))
      clear hb2
      go_wp2
      go_ret
      exact ⟨rfl, HB2.out⟩

end Go.Proofs.YtpllhnknejceiaaGreatDoor.hw
