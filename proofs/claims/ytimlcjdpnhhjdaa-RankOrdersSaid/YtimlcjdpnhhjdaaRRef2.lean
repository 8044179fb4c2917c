/-
  Given for the seat's laws: the contract of the document's Score. No condition but those of the theorems.
-/
import Derived.Test.YtimlcjdpnhhjdaaRRef
namespace Go.Proofs.Ytimlcjdpnhhjdaa.rk
open Go.RowKit mem sp
set_option linter.unusedVariables false

set_option maxHeartbeats 4000000 in
set_option maxRecDepth 100000 in
theorem rscore_any {w : World} {ok : Nat → Prop} {A : Option Addr} {n c : Nat} {key : Str} (hs : Spell w ok A n c key) (hok : ∀ g, ok g → g < w.heap.size) (hn : n ≤ 100000) (b : Str) (hb : b.length ≤ 1000) (z : Int) : Calls Try.prog 11 #[.slice A n c, .string (S b), .int .i64 z] w (TellTo2 (scoK key b z) w) := by
  have HCH : Bx (∀ (i : Nat) W, Below w.heap.size w W → Calls Try.prog 13 #[.slice A n c, .string (S b), .int .u8 ((UInt8.ofNat i).toNat : Int)] W (NumTo (drw (rk.hk 0 key) (rk.hk 1 key) b i) W)) :=
    ⟨fun i W hW => rchance_any (hs.below hW hok) (fun g hg => Nat.lt_of_lt_of_le (hok g hg) hW.size) hn b hb (UInt8.ofNat i)⟩
  unfold scoK
  generalize rk.hk 0 key = k0 at *
  generalize rk.hk 1 key = k1 at *
  clear hs hok
  by_cases hz0 : z < 1
  · have hsn := sco_none (k0 := k0) (k1 := k1) (name := b) (z := z) (by omega)
    clear HCH
    rw [hsn]
    go_enter Try.func11, Try.ntmps11
    go_wp2
    go_ret2
    exact ⟨rfl, Below.refl _ _⟩
  · obtain ⟨m, hm⟩ : ∃ m, cnt z = m := ⟨_, rfl⟩
    have hm1 : 1 ≤ m := by unfold cnt at hm; omega
    have hm100 : m ≤ 100 := by unfold cnt at hm; omega
    have hfin : sco k0 k1 b z = ⟨true, num (sup k0 k1 b m)⟩ := by
      unfold sco
      rw [hm]
      have : 0 < z := by omega
      simp [this]
    rw [hfin]
    have HC0 : Bx (∀ W, Below w.heap.size w W → Calls Try.prog 13 #[.slice A n c, .string (S b), .int .u8 0] W (NumTo (sup k0 k1 b 1) W)) := ⟨fun W hW => by
      rw [sup_one]
      exact HCH.out 0 W hW⟩
    have h1z : 1 ≤ z := by omega
    have hb0 := Below.refl w.heap.size w
    have HB0 := Bx.mk hb0
    obtain ⟨q, hq, hqq⟩ : ∃ q : Int, q = (m : Int) ∧ (100 < z ∧ q = 100 ∨ z ≤ 100 ∧ q = z) := ⟨(m : Int), rfl, by unfold cnt at hm; omega⟩
    clear hfin hm hb0
    rcases hqq with ⟨hz, hqz⟩ | ⟨hz, hqz⟩
    · have hmq : (m : Int) = 100 := by omega
      clear hq hqz
      go_enter Try.func11, Try.ntmps11
      go_wp2_with fail
      refine (HC0.out w HB0.out).mono ?_
      rintro e w1 ⟨rfl, hb1⟩
      have H1 : Bx (Below w.heap.size w w1) := ⟨hb1⟩
      clear hb1 HB0 HC0
      go_wp2_with fail
      go_loopw [8, 9, 10] (fun s8 s9 s10 wr => ∃ i : Nat, 1 ≤ i ∧ i ≤ m ∧ s8 = .int .u64 (num (sup k0 k1 b i)) ∧ s9 = .int .i64 (i : Int) ∧ Bx (Below w.heap.size w wr)) (fun _ s9 _ _ => 200 - (intOf s9).toNat)
      case atStart => exact ⟨1, by omega, hm1, rfl, rfl, H1⟩
      case round =>
        clear H1
        obtain ⟨i, hi1, hi, rfl, rfl, HB⟩ := hrel
        by_cases hlt : i < m
        · have hu : IntKind.u8.wrap (i : Int) = ((UInt8.ofNat i).toNat : Int) := by rw [IntKind.wrap_u8']; simp
          have HDI := Bx.mk (HCH.out i)
          have hnx : sup k0 k1 b (i + 1) = mx (sup k0 k1 b i) (drw k0 k1 b i) := rfl
          generalize UInt8.ofNat i = ui at hu HDI
          generalize drw k0 k1 b i = y at *
          generalize hsx : sup k0 k1 b i = x at *
          generalize hsy : sup k0 k1 b (i + 1) = x2 at *
          have HSX := Bx.mk hsx
          have HSY := Bx.mk hsy
          clear hsx hsy
          have e1 : num x < num y → x2 = y := fun h => hnx.trans (if_pos h)
          have e2 : ¬ num x < num y → x2 = x := fun h => hnx.trans (if_neg h)
          clear hnx
          have hlq : (i : Int) < (100 : Int) := by omega
          by_cases hxy : num x < num y
          · obtain rfl := e1 hxy
            clear e1 e2
            go_wp2_with fail
            refine (HDI.out _ HB.out).mono ?_
            rintro e w2 ⟨rfl, hb2⟩
            have HB2 := Bx.mk (HB.out.trans (hb2.mono HB.out.size))
            clear hb2
            go_wp2_with fail
            go_roundw
            case rel => exact ⟨i + 1, by omega, by omega, by rw [HSY.out], by go_num, HB2⟩
            case measure => simp [intOf]; omega
          · have hxy2 : num y ≤ num x := by omega
            obtain rfl := e2 hxy
            clear e1 e2 hxy
            go_wp2_with fail
            refine (HDI.out _ HB.out).mono ?_
            rintro e w2 ⟨rfl, hb2⟩
            have HB2 := Bx.mk (HB.out.trans (hb2.mono HB.out.size))
            clear hb2
            go_wp2_with fail
            go_roundw
            case rel => exact ⟨i + 1, by omega, by omega, by rw [HSY.out], by go_num, HB2⟩
            case measure => simp [intOf]; omega
        · obtain rfl : i = m := by omega
          generalize num (sup k0 k1 b i) = x at *
          have hnq : (100 : Int) ≤ (i : Int) := by omega
          go_wp2_with fail
          go_ret2
          exact ⟨rfl, HB.out⟩
    · have hmq : (m : Int) = z := by omega
      clear hq hqz
      go_enter Try.func11, Try.ntmps11
      go_wp2_with fail
      refine (HC0.out w HB0.out).mono ?_
      rintro e w1 ⟨rfl, hb1⟩
      have H1 : Bx (Below w.heap.size w w1) := ⟨hb1⟩
      clear hb1 HB0 HC0
      go_wp2_with fail
      go_loopw [8, 9, 10] (fun s8 s9 s10 wr => ∃ i : Nat, 1 ≤ i ∧ i ≤ m ∧ s8 = .int .u64 (num (sup k0 k1 b i)) ∧ s9 = .int .i64 (i : Int) ∧ Bx (Below w.heap.size w wr)) (fun _ s9 _ _ => 200 - (intOf s9).toNat)
      case atStart => exact ⟨1, by omega, hm1, rfl, rfl, H1⟩
      case round =>
        clear H1
        obtain ⟨i, hi1, hi, rfl, rfl, HB⟩ := hrel
        by_cases hlt : i < m
        · have hu : IntKind.u8.wrap (i : Int) = ((UInt8.ofNat i).toNat : Int) := by rw [IntKind.wrap_u8']; simp
          have HDI := Bx.mk (HCH.out i)
          have hnx : sup k0 k1 b (i + 1) = mx (sup k0 k1 b i) (drw k0 k1 b i) := rfl
          generalize UInt8.ofNat i = ui at hu HDI
          generalize drw k0 k1 b i = y at *
          generalize hsx : sup k0 k1 b i = x at *
          generalize hsy : sup k0 k1 b (i + 1) = x2 at *
          have HSX := Bx.mk hsx
          have HSY := Bx.mk hsy
          clear hsx hsy
          have e1 : num x < num y → x2 = y := fun h => hnx.trans (if_pos h)
          have e2 : ¬ num x < num y → x2 = x := fun h => hnx.trans (if_neg h)
          clear hnx
          have hlq : (i : Int) < (z : Int) := by omega
          by_cases hxy : num x < num y
          · obtain rfl := e1 hxy
            clear e1 e2
            go_wp2_with fail
            refine (HDI.out _ HB.out).mono ?_
            rintro e w2 ⟨rfl, hb2⟩
            have HB2 := Bx.mk (HB.out.trans (hb2.mono HB.out.size))
            clear hb2
            go_wp2_with fail
            go_roundw
            case rel => exact ⟨i + 1, by omega, by omega, by rw [HSY.out], by go_num, HB2⟩
            case measure => simp [intOf]; omega
          · have hxy2 : num y ≤ num x := by omega
            obtain rfl := e2 hxy
            clear e1 e2 hxy
            go_wp2_with fail
            refine (HDI.out _ HB.out).mono ?_
            rintro e w2 ⟨rfl, hb2⟩
            have HB2 := Bx.mk (HB.out.trans (hb2.mono HB.out.size))
            clear hb2
            go_wp2_with fail
            go_roundw
            case rel => exact ⟨i + 1, by omega, by omega, by rw [HSY.out], by go_num, HB2⟩
            case measure => simp [intOf]; omega
        · obtain rfl : i = m := by omega
          generalize num (sup k0 k1 b i) = x at *
          have hnq : (z : Int) ≤ (i : Int) := by omega
          go_wp2_with fail
          go_ret2
          exact ⟨rfl, HB.out⟩
end Go.Proofs.Ytimlcjdpnhhjdaa.rk
