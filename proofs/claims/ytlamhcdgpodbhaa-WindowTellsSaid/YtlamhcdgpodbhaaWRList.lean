/-
  Given for the seat's laws: the contract of the document's own List. No condition but those of the theorems.
-/
import Derived.Test.YtlamhcdgpodbhaaWParts
import Derived.Deep.OwnRows
namespace Go.Proofs.Ytlamhcdgpodbhaa.wn
open Go.RowKit mem
set_option linter.unusedVariables false

theorem mk_bools {n : Nat} (hn : n ≤ 1000) (w : World) : (Instr.makeSlice 24 (.int .i64 (n : Int)) (.int .i64 (n : Int))).run Try.prog w = .ok (.slice (some ⟨w.heap.size, 0, none⟩) n n) (w.alloc (.cells (madeCells #[.bool false] n) 4)) :=
  run_make_row' (P := Try.prog) 24 4 (.bool false) 1 Try.underlying24 (by kernel_rfl) rfl .i64 .i64 n (by omega) (by omega) w
/-- what the document's own List leaves -/
structure RListed (w : World) (l : Out) (r : Bool) (e : Ending) (w' : World) : Prop where
  ex : ∃ A c, e = .returned (.tuple #[.slice A l.length c, .bool r]) ∧ w'.ownsRow w.heap.size 4 1 (.slice A l.length c) l.length (bv l) ∧ Below w.heap.size w w'
theorem own_of_row {W : World} {g k b B : Nat} (h : W.rowIs g 4 k (fun p => .bool (bitg k b p))) (hk : k ≤ 1000) (hg : B ≤ g) : W.ownsRow B 4 1 (.slice (some ⟨g, 0, none⟩) (L k b).length k) (L k b).length (bv (L k b)) := by
  rw [L_len]
  obtain ⟨c, hc, hs, hf⟩ := h
  have e : c.toList = bv (L k b) := by
    apply List.ext_getElem?
    intro i
    by_cases hi : i < k
    · rw [bv_get (L_get hi), Array.getElem?_toList]
      exact hf i hi
    · rw [List.getElem?_eq_none (by simp [hs]; omega), List.getElem?_eq_none (by rw [bv_len, L_len]; omega)]
  refine ⟨by rw [bv_len, L_len, Nat.mul_one], .inr ⟨g, k, c, rfl, hg, hc, Nat.le_refl _, by unfold maxLen; omega, by omega, ?_⟩⟩
  rw [e, Nat.mul_one, List.take_of_length_le (by rw [bv_len, L_len]; exact Nat.le_refl _)]
/-- so far -/
structure RI (w : World) (g k b j : Nat) (wr : World) : Prop where
  row : wr.rowIs g 4 k (fun p => .bool (decide (j ≤ p) && bitg k b p))
  below : Below w.heap.size w wr
  ge : w.heap.size ≤ g
theorem RI.set {w wr : World} {g k b j : Nat} (h : RI w g k b (j + 1) wr) (hj : j < k) : RI w g k b j (wr.setCell ⟨g, j, none⟩ (.bool (bitg k b j))) := by
  refine ⟨(h.row.set j (.bool (bitg k b j))).congr (fun p hp => ?_), h.below.setCell (p := ⟨g, j, none⟩) h.ge _, h.ge⟩
  by_cases e : p = j
  · subst e
    simp
  · rw [if_neg e]
    have : decide (j + 1 ≤ p) = decide (j ≤ p) := by
      by_cases h : j ≤ p
      · rw [decide_eq_true h, decide_eq_true (by omega)]
      · rw [decide_eq_false h, decide_eq_false (by omega)]
    rw [this]

set_option maxHeartbeats 2000000 in
set_option maxRecDepth 100000 in
theorem rlist_any (x : Nat) (hx : x < 65536) (w : World) : Calls Try.prog 6 #[.int .u16 (x : Int)] w (RListed w (lst x) (may x)) := by
  by_cases h8 : x / 256 ≤ 8
  · obtain ⟨k, hk⟩ : ∃ k, x / 256 = k := ⟨_, rfl⟩
    obtain ⟨b, hb⟩ : ∃ b, x % 256 = b := ⟨_, rfl⟩
    have hb2 : b < 256 := by omega
    have xk : (x : Int) / 256 = (k : Int) := by omega
    have xb : (x : Int) % 256 = (b : Int) := by omega
    have h8i : (k : Int) ≤ 8 := by omega
    have mk3 := fun w => mk_bools (n := k) (by omega) w
    have hyes : b < 2 ^ k → may x = true ∧ lst x = L k b := fun h => by
      have hm : may x = true := may_iff.2 ⟨h8, by rw [hk, hb]; exact h⟩
      refine ⟨hm, ?_⟩
      unfold lst
      rw [hk_yes hm, hb_yes hm, hk, hb]
    have hno : ¬ b < 2 ^ k → may x = false ∧ lst x = [] := fun h => by
      have hm : may x = false := by
        cases hh : may x with
        | false => rfl
        | true => exact absurd (by have := (may_iff.1 hh).2; rwa [hk, hb] at this) h
      refine ⟨hm, ?_⟩
      unfold lst
      rw [hk_no hm]
      rfl
    have HY := Bx.mk hyes
    have HN := Bx.mk hno
    have h0 : Bx (RI w w.heap.size k b k (w.alloc (.cells (madeCells #[.bool false] k) 4))) := ⟨(World.rowIs_made w (.bool false) k 4).congr (fun p hp => by rw [decide_eq_false (by omega)]; rfl), (Below.refl _ _).alloc (Nat.le_refl _) _, Nat.le_refl _⟩
    generalize lst x = l at *
    generalize may x = r at *
    generalize madeCells #[.bool false] k = z1 at *
    clear hyes hno hk hb h8
    go_enter Try.func6, Try.ntmps6
    go_wp2
    go_loopw [5, 7] (fun s5 s7 wr => ∃ (j m : Nat) (z : Int), j ≤ k ∧ s7 = .int .i64 z ∧ z = (j : Int) - 1 ∧ s5 = .int .i64 (m : Int) ∧ Bx (m = b / 2 ^ (k - j)) ∧ m < 256 ∧ Bx (RI w w.heap.size k b j wr)) (fun _ s7 _ => (intOf s7 + 1).toNat)
    case atStart => exact ⟨k, b, _, by omega, rfl, rfl, rfl, ⟨by rw [Nat.sub_self, Nat.pow_zero, Nat.div_one]⟩, hb2, h0⟩
    case round =>
      clear h0 mk3
      obtain ⟨j, m, z, hj, rfl, hz, rfl, HM, hm, HR⟩ := hrel
      cases j with
      | zero =>
        obtain rfl : z = -1 := by omega
        have hm2 := HM.out
        rw [Nat.sub_zero] at hm2
        have hrow := HR.out.row
        have HRW := Bx.mk (hrow.congr (g := fun p => .bool (bitg k b p)) (fun p hp => by rw [decide_eq_true (by omega)]; rfl))
        clear hrow hz
        by_cases h0 : m = 0
        · subst h0
          have hlt : b < 2 ^ k := by
            rcases Nat.lt_or_ge b (2 ^ k) with h | h
            · exact h
            · have := Nat.div_pos h (Nat.two_pow_pos k); omega
          obtain ⟨rfl, rfl⟩ := HY.out hlt
          have hown := own_of_row HRW.out (by omega) HR.out.ge
          have HOWN := Bx.mk hown
          have HLEN := Bx.mk (L_len k b)
          clear hown hlt HM hm2 HY HN
          go_wp2
          go_ret2
          exact ⟨_, _, by rw [HLEN.out]; rfl, HOWN.out, HR.out.below⟩
        · have hge : ¬ b < 2 ^ k := fun h => h0 (by rw [hm2]; exact Nat.div_eq_of_lt h)
          obtain ⟨rfl, rfl⟩ := HN.out hge
          have hpos : (0 : Int) < (m : Int) := by omega
          clear hge h0 HM hm2 HY HN HRW
          go_wp2
          go_ret2
          exact ⟨none, 0, rfl, World.ownsRow_nil _ _ _ _, HR.out.below⟩
      | succ j =>
        obtain rfl : z = (j : Int) := by omega
        have hjk : j < k := by omega
        have hm2 := HM.out
        rw [show k - (j + 1) = k - 1 - j by omega] at hm2
        have hgb : ((m : Int) % 2 == 0) = bitg k b j := by
          unfold bitg
          rw [← hm2]
          cases hh : Nat.beq (m % 2) 0 with
          | true =>
            have := Nat.eq_of_beq_eq_true hh
            have e : (m : Int) % 2 = 0 := by omega
            rw [e]
            rfl
          | false =>
            have := Nat.ne_of_beq_eq_false hh
            exact beq_eq_false_iff_ne.2 (by omega)
        have HM2 : Bx (m / 2 = b / 2 ^ (k - j)) := ⟨by rw [hm2, Nat.div_div_eq_div_mul, ← Nat.pow_succ, show (k - 1 - j).succ = k - j by omega]⟩
        have HR2 := Bx.mk (HR.out.set hjk)
        have cj := HR.out.row.cell hjk
        have fj := HR.out.row.frozen j
        have j0 : (0 : Int) ≤ (j : Int) := by omega
        have j1 : (j : Int) < (k : Int) := by omega
        have m0 : (0 : Int) ≤ (m : Int) := by omega
        have m1 : (m : Int) < 256 := by omega
        have hdj : decide (j + 1 ≤ j) = false := decide_eq_false (by omega)
        rw [hdj] at cj
        generalize bitg k b j = g at *
        clear hm2 HM HR hdj hz
        go_wp2
        go_roundw
        case rel => exact ⟨j, m / 2, (j : Int) - 1, by omega, by go_num, rfl, by simp, HM2, by omega, HR2⟩
        case measure => (simp [intOf]) <;> omega
  · have h8i : ¬ (((x / 256 : Nat) : Int) ≤ 8) := by omega
    obtain ⟨k, hk⟩ : ∃ k, x / 256 = k := ⟨_, rfl⟩
    have hm : may x = false := by
      cases hh : may x with
      | false => rfl
      | true => exact absurd (may_iff.1 hh).1 h8
    have hl : lst x = [] := by
      unfold lst
      rw [hk_no hm]
      rfl
    rw [hm, hl]
    have xk : (x : Int) / 256 = (k : Int) := by omega
    have h8i : (8 : Int) < (k : Int) := by omega
    have hk2 : (k : Int) < 65536 := by omega
    clear hm hl h8 hk
    go_enter Try.func6, Try.ntmps6
    go_wp2
    go_ret2
    exact ⟨none, 0, rfl, World.ownsRow_nil _ _ _ _, Below.refl _ _⟩
end Go.Proofs.Ytlamhcdgpodbhaa.wn
