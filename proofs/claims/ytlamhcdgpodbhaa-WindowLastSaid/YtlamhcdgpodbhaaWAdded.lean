/-
  Given for the seat's laws: the contracts of the laws' own added and awake. No condition but those of the theorems.
-/
import Derived.Test.YtlamhcdgpodbhaaWBad
import Derived.Test.YtlamhcdgpodbhaaWList
namespace Go.Proofs.Ytlamhcdgpodbhaa.wn
open Go.RowKit mem
set_option linter.unusedVariables false

theorem bools_of {w : World} {B : Nat} {A : Option Addr} {n c : Nat} {l : Out} (h : w.ownsRow B 4 1 (.slice A n c) n (bv l)) : Bools w A l := (RowAt.of_own h).weak (fun g hg => hg.2.1)

set_option maxHeartbeats 2000000 in
set_option maxRecDepth 100000 in
theorem added_any {w : World} {A : Option Addr} {n c : Nat} {l : Out} (x : Nat) (hx : x < 65536) (hn : l.length = n) (ha : Bools w A l) (hm : n ≤ 100000) :
    Calls Try.prog 16 #[.int .u16 (x : Int), .slice A n c] w (Pure (.int .u16 (adds x l : Int)) w) := by
  have HA := Bx.mk ha
  have HN := Bx.mk hn
  have HAD := Bx.mk (fun (x : Nat) (hx : x < 65536) g w => add_any x hx g w)
  have hmi : (n : Int) ≤ 100000 := by omega
  unfold Pure at HAD
  clear ha hn
  go_enter Try.func16, Try.ntmps16
  go_wp2
  go_loopw [0, 5] (fun s0 s5 wr => ∃ i : Nat, i ≤ n ∧ s5 = .int .i64 (i : Int) ∧ s0 = .int .u16 (adds x (l.take i) : Int) ∧ Bx (Still w wr)) (fun _ s5 _ => n - (intOf s5).toNat)
  case atStart => exact ⟨0, by omega, rfl, rfl, ⟨Still.refl _⟩⟩
  case round =>
    obtain ⟨i, hi, rfl, rfl, HS⟩ := hrel
    by_cases hlt : i < n
    · obtain ⟨g, hg⟩ : ∃ g, l[i]? = some g := ⟨_, List.getElem?_eq_getElem (by rw [HN.out]; exact hlt)⟩
      obtain ⟨gb, off, rfl, hgb, cg0⟩ := HA.out.cell (bv_get hg)
      have cg := (HS.out.cell ⟨gb, off + i, none⟩).trans cg0
      have HT := Bx.mk (show adds x (l.take (i + 1)) = addw (adds x (l.take i)) g by rw [take_get hg, adds_snoc])
      have hlt2 := adds_lt (l.take i) x hx
      generalize adds x (l.take i) = m at *
      have HC := Bx.mk (HAD.out m hlt2 g)
      have i0 : (0 : Int) ≤ (i : Int) := by omega
      have i1 : (i : Int) < (n : Int) := by omega
      clear hg hgb cg0
      go_wp2_with fail
      refine (HC.out _).mono ?_
      rintro e w2 ⟨rfl, hs2⟩
      have HS2 := Bx.mk (HS.out.trans hs2)
      clear hs2 HS cg
      go_wp2_with fail
      go_roundw
      case rel => exact ⟨i + 1, by omega, by go_num, by rw [HT.out], HS2⟩
      case measure => (simp [intOf]) <;> omega
    · obtain rfl : i = n := by omega
      have hfin : l.take i = l := by rw [List.take_of_length_le (by rw [HN.out]; exact Nat.le_refl _)]
      rw [hfin]
      clear hfin
      go_wp2
      go_ret
      exact ⟨rfl, HS.out⟩

theorem ex1 : adds 0 [true, false, false] = 771 := by decide +kernel
theorem ex2 : adds 771 [true, true, true, true, true, true, true, true] = 2048 := by decide +kernel
theorem ex3 : (lst 771).length = 3 ∧ bads (lst 771) = 2 ∧ (lst 2048).length = 8 ∧ bads (lst 2048) = 0 ∧ may 65535 = false ∧ (lst 65535).length = 0 ∧ bads (lst 65535) = 0 ∧ addw 65535 false = 257 := by decide +kernel
theorem bools_lit (w : World) (l : Out) : Bools (w.alloc (.cells (bv l).toArray 4)) (some ⟨w.heap.size, 0, none⟩) l := ⟨fun _ => ⟨w.heap.size, 0, rfl, by simp, fun j v hj => by rw [Nat.zero_add, lit_cell]; simpa using hj⟩⟩

set_option maxHeartbeats 4000000 in
set_option maxRecDepth 100000 in
theorem awake_any (w : World) : Calls Try.prog 15 #[] w (True_ w) := by
  have h1 : ∀ W, Calls Try.prog 16 #[.int .u16 0, .slice (some ⟨W.heap.size, 0, none⟩) 3 3] (W.alloc (.cells #[.bool true, .bool false, .bool false] 4)) fun e w' => e = .returned (.int .u16 771) ∧ Below W.heap.size W w' := fun W =>
    (added_any (n := 3) (c := 3) 0 (by omega) (l := [true, false, false]) rfl (bools_lit W _) (by omega)).mono fun e w' ⟨he, hs⟩ => ⟨by rw [he, ex1]; rfl, ((Below.refl W.heap.size W).alloc (Nat.le_refl _) _).trans (hs.below _)⟩
  have h2 : ∀ W, Calls Try.prog 16 #[.int .u16 771, .slice (some ⟨W.heap.size, 0, none⟩) 8 8] (W.alloc (.cells #[.bool true, .bool true, .bool true, .bool true, .bool true, .bool true, .bool true, .bool true] 4)) fun e w' => e = .returned (.int .u16 2048) ∧ Below W.heap.size W w' := fun W =>
    (added_any (n := 8) (c := 8) 771 (by omega) (l := [true, true, true, true, true, true, true, true]) rfl (bools_lit W _) (by omega)).mono fun e w' ⟨he, hs⟩ => ⟨by rw [he, ex2]; rfl, ((Below.refl W.heap.size W).alloc (Nat.le_refl _) _).trans (hs.below _)⟩
  obtain ⟨x1, x2, x3, x4, x5, x6, x7, x8⟩ := ex3
  have pl : ∀ (x : Nat) (hx : x < 65536) (v : Value), .int .i64 ((lst x).length : Int) = v → ∀ W, Calls Try.prog 8 #[.int .u16 (x : Int)] W fun e w' => e = .returned v ∧ Below W.heap.size W w' := fun x hx v hv W => (len_any x hx W).mono fun e w' ⟨he, hs⟩ => ⟨by rw [he, hv], hs.below _⟩
  have pb : ∀ (x : Nat) (hx : x < 65536) (v : Value), .int .i64 (bads (lst x) : Int) = v → ∀ W, Calls Try.prog 9 #[.int .u16 (x : Int)] W fun e w' => e = .returned v ∧ Below W.heap.size W w' := fun x hx v hv W => (bad_any x hx W).mono fun e w' ⟨he, hs⟩ => ⟨by rw [he, hv], hs⟩
  have L1 := Bx.mk (pl 771 (by omega) (.int .i64 3) (by rw [x1]; rfl))
  have B1 := Bx.mk (pb 771 (by omega) (.int .i64 2) (by rw [x2]; rfl))
  have L2 := Bx.mk (pl 2048 (by omega) (.int .i64 8) (by rw [x3]; rfl))
  have B2 := Bx.mk (pb 2048 (by omega) (.int .i64 0) (by rw [x4]; rfl))
  have M3 := Bx.mk (fun W => (may_any 65535 (by omega) W).mono (R' := fun e w' => e = .returned (.bool false) ∧ Below W.heap.size W w') fun e w' ⟨he, hs⟩ => ⟨by rw [he, x5], hs.below _⟩)
  have L3 := Bx.mk (pl 65535 (by omega) (.int .i64 0) (by rw [x6]; rfl))
  have B3 := Bx.mk (pb 65535 (by omega) (.int .i64 0) (by rw [x7]; rfl))
  have A3 := Bx.mk (fun W => (add_any 65535 (by omega) false W).mono (R' := fun e w' => e = .returned (.int .u16 257) ∧ Below W.heap.size W w') fun e w' ⟨he, hs⟩ => ⟨by rw [he, x8]; rfl, hs.below _⟩)
  have H1 := Bx.mk h1
  have H2 := Bx.mk h2
  clear h1 h2 x1 x2 x3 x4 x5 x6 x7 x8 pl pb
  unfold True_
  go_enter Try.func15, Try.ntmps15
  go_wp2_with fail
  refine (H1.out _).mono ?_
  rintro e w1 ⟨rfl, hb⟩
  have HB1 := Bx.mk hb
  clear hb
  go_wp2_with fail
  refine (H2.out _).mono ?_
  rintro e w2 ⟨rfl, hb⟩
  have HB2 := Bx.mk (HB1.out.trans (hb.mono HB1.out.size))
  clear hb HB1
  go_wp2_with fail
  refine (L1.out _).mono ?_
  rintro e w3 ⟨rfl, hb⟩
  have HB3 := Bx.mk (HB2.out.trans (hb.mono HB2.out.size))
  clear hb HB2
  go_wp2_with fail
  refine (B1.out _).mono ?_
  rintro e w4 ⟨rfl, hb⟩
  have HB4 := Bx.mk (HB3.out.trans (hb.mono HB3.out.size))
  clear hb HB3
  go_wp2_with fail
  refine (L2.out _).mono ?_
  rintro e w5 ⟨rfl, hb⟩
  have HB5 := Bx.mk (HB4.out.trans (hb.mono HB4.out.size))
  clear hb HB4
  go_wp2_with fail
  refine (B2.out _).mono ?_
  rintro e w6 ⟨rfl, hb⟩
  have HB6 := Bx.mk (HB5.out.trans (hb.mono HB5.out.size))
  clear hb HB5
  go_wp2_with fail
  refine (M3.out _).mono ?_
  rintro e w7 ⟨rfl, hb⟩
  have HB7 := Bx.mk (HB6.out.trans (hb.mono HB6.out.size))
  clear hb HB6
  go_wp2_with fail
  refine (L3.out _).mono ?_
  rintro e w8 ⟨rfl, hb⟩
  have HB8 := Bx.mk (HB7.out.trans (hb.mono HB7.out.size))
  clear hb HB7
  go_wp2_with fail
  refine (B3.out _).mono ?_
  rintro e w9 ⟨rfl, hb⟩
  have HB9 := Bx.mk (HB8.out.trans (hb.mono HB8.out.size))
  clear hb HB8
  go_wp2_with fail
  refine (A3.out _).mono ?_
  rintro e w10 ⟨rfl, hb⟩
  have HB10 := Bx.mk (HB9.out.trans (hb.mono HB9.out.size))
  clear hb HB9
  go_wp2_with fail
  go_ret
  exact ⟨rfl, HB10.out⟩
end Go.Proofs.Ytlamhcdgpodbhaa.wn
