/-
  Given for the seat's laws: the law WindowLast answers true over whatever memory. No condition but those of the theorems.
-/
import Derived.Test.YtlamhcdgpodbhaaWAdded
namespace Go.Proofs.Ytlamhcdgpodbhaa.wn
open Go.RowKit mem
set_option linter.unusedVariables false

set_option maxHeartbeats 4000000 in
set_option maxRecDepth 100000 in
theorem last_any {w : World} {A : Option Addr} {n c : Nat} {l : Out} (hn : l.length = n) (ha : Bools w A l) : Calls Try.prog 4 #[.slice A n c] w (True_ w) := by
  have HAW := Bx.mk (awake_any w)
  unfold True_ at HAW
  by_cases h300 : n ≤ 300
  · have HAD : Bx (∀ W, Below w.heap.size w W → Calls Try.prog 16 #[.int .u16 0, .slice A n c] W (Pure (.int .u16 (adds 0 l : Int)) W)) := ⟨fun W hW => added_any 0 (by omega) hn (Bools.below' ha hW) (by omega)⟩
    have h3i : (n : Int) ≤ 300 := by omega
    have hz := adds_lt l 0 (by omega)
    have HMAY := Bx.mk (fun W => may_any _ hz W)
    have HLEN := Bx.mk (fun W => len_any _ hz W)
    have HLI := Bx.mk (fun W => list_any _ hz W)
    have HBAD := Bx.mk (fun W => bad_any _ hz W)
    rw [may_adds _ _ may_zero] at HMAY
    rw [lst_last] at HLEN HLI HBAD
    unfold Pure at HAD HMAY HLEN
    generalize adds 0 l = z at *
    have HA := Bx.mk ha
    clear ha hz
    obtain ⟨kl, hkl⟩ : ∃ kl, last8 l = kl := ⟨_, rfl⟩
    by_cases h8 : n ≤ 8
    · have h8 : (n : Int) ≤ 8 := by omega
      have HKL : Bx (kl.length = n) := ⟨by rw [← hkl, last8_len, hn]; omega⟩
      have HGET : Bx (∀ (p i : Nat) (g : Bool), i = p → l[i]? = some g → kl[p]? = some g) := ⟨fun p i g hi hg => by
        rw [← hkl, last8_short (by omega), ← hi]; exact hg⟩
      rw [hkl] at HLEN HLI HBAD
      rw [HKL.out] at HLEN
      have HN := Bx.mk hn
      have HKN := Bx.mk (show kl.length ≤ 8 by rw [← hkl, last8_len]; omega)
      clear hn hkl 
      go_enter Try.func4, Try.ntmps4
      go_wp2_with fail
      refine HAW.out.mono ?_
      rintro e w1 ⟨rfl, hb⟩
      have HB1 := Bx.mk hb
      clear hb HAW
      go_wp2_with fail
      refine (HAD.out _ HB1.out).mono ?_
      rintro e w2 ⟨rfl, hs⟩
      have HB2 := Bx.mk (HB1.out.trans (hs.below _))
      clear hs HB1 HAD
      go_wp2_with fail
      refine (HLI.out _).mono ?_
      rintro e w3 ⟨A2, c2, rfl, ho, hb⟩
      rw [HKL.out] at ho ⊢
      have HB3 := Bx.mk (HB2.out.trans (hb.mono HB2.out.size))
      have HO := Bx.mk (bools_of ho)
      clear hb ho HB2 HLI
      go_wp2_with fail
      refine (HMAY.out _).mono ?_
      rintro e w4 ⟨rfl, hs⟩
      have HB4 := Bx.mk (HB3.out.trans (hs.below _))
      have HO4 := Bx.mk (HO.out.below' (hs.below _))
      clear hs HB3 HO HMAY
      go_wp2_with fail
      refine (HLEN.out _).mono ?_
      rintro e w5 ⟨rfl, hs⟩
      have HB5 := Bx.mk (HB4.out.trans (hs.below _))
      have HO5 := Bx.mk (HO4.out.below' (hs.below _))
      clear hs HB4 HO4
      go_wp2_with fail
      refine (HLEN.out _).mono ?_
      rintro e w6 ⟨rfl, hs⟩
      have HB6 := Bx.mk (HB5.out.trans (hs.below _))
      have HO6 := Bx.mk (HO5.out.below' (hs.below _))
      have HA6 := Bx.mk (HA.out.below' HB6.out)
      have H0 := Bx.mk (Below.refl w6.heap.size w6)
      clear hs HB5 HO5 HLEN HA
      go_wp2_with fail
      go_loopw [6, 7] (fun s6 s7 wr => ∃ i p : Nat, p ≤ n ∧ s7 = .int .i64 (i : Int) ∧ Bx (i = p) ∧ s6 = .int .i64 (bads (kl.take p) : Int) ∧ Bx (Below w6.heap.size w6 wr)) (fun _ s7 _ => n - (intOf s7).toNat)
      case atStart => exact ⟨0, 0, by omega, rfl, ⟨by omega⟩, rfl, H0⟩
      case round =>
        clear H0
        obtain ⟨i, p, hp, rfl, HI, rfl, HW⟩ := hrel
        by_cases hlt : p < n
        · have hin : i < n := by have := HI.out; omega
          obtain ⟨g, hg⟩ : ∃ g, l[i]? = some g := ⟨_, List.getElem?_eq_getElem (by rw [HN.out]; exact hin)⟩
          have hkg := HGET.out p i g HI.out hg
          obtain ⟨g1, o1, eA, ho1, c1⟩ := (HA6.out.below' HW.out).cell (bv_get hg)
          obtain ⟨g2, o2, eA2, ho2, c2⟩ := (HO6.out.below' HW.out).cell (bv_get hkg)
          subst eA eA2
          have hbt := bads_take hkg
          have hm := bads_le (kl.take p)
          rw [List.length_take] at hm
          have HT := Bx.mk hbt
          generalize bads (kl.take p) = m at *
          have m8 : (m : Int) ≤ 8 := by have := HKN.out; omega
          obtain rfl : i = p := HI.out
          have i0 : (0 : Int) ≤ (i : Int) := by omega
          have i1 : (i : Int) < (n : Int) := by omega
          have n3 : (n : Int) ≤ 300 := by omega
          clear hbt hm hg hkg ho1 ho2
          cases g with
          | true =>
            go_wp2_with fail
            go_quiet (fail)
            have HW2 := Bx.mk (HW.out.trans (((Still.drewN _ nq).below _).mono HW.out.size))
            have c3 : (wr.drewN nq).cell? ⟨g1, o1 + i, none⟩ = some (.bool true) := c1
            clear HW c2 c1
            generalize wr.drewN nq = wq at *
            go_wp2
            go_roundw
            case rel => exact ⟨i + 1, i + 1, by omega, by go_num, ⟨by have := HI.out; omega⟩, by rw [HT.out]; rfl, HW2⟩
            case measure => (simp [intOf]) <;> omega
          | false =>
            go_wp2_with fail
            go_quiet (fail)
            have HW2 := Bx.mk (HW.out.trans (((Still.drewN _ nq).below _).mono HW.out.size))
            have c3 : (wr.drewN nq).cell? ⟨g1, o1 + i, none⟩ = some (.bool false) := c1
            clear HW c2 c1
            generalize wr.drewN nq = wq at *
            go_wp2
            go_roundw
            case rel => exact ⟨i + 1, i + 1, by omega, by go_num, ⟨by have := HI.out; omega⟩, by rw [HT.out]; unfold bad1; simp, HW2⟩
            case measure => (simp [intOf]) <;> omega
        · obtain rfl : p = n := by omega
          obtain rfl : i = p := HI.out
          have hfin : kl.take i = kl := by rw [List.take_of_length_le (by rw [HKL.out]; exact Nat.le_refl _)]
          rw [hfin]
          have HB7 := Bx.mk (HB6.out.trans (HW.out.mono HB6.out.size))
          clear hfin HW HB6
          go_wp2_with fail
          refine (HBAD.out _).mono ?_
          rintro e w8 ⟨rfl, hb⟩
          have HB8 := Bx.mk (HB7.out.trans (hb.mono HB7.out.size))
          clear hb HB7
          go_wp2_with fail
          go_ret
          exact ⟨rfl, HB8.out⟩
    · obtain ⟨f, hf0⟩ : ∃ f, n - 8 = f := ⟨_, rfl⟩
      have hf : (n : Int) - 8 = (f : Int) := by omega
      have hnf : (n : Int) - (f : Int) = 8 := by omega
      have h8 : (8 : Int) < (n : Int) := by omega
      have hfn : (f : Int) ≤ (n : Int) := by omega
      have f0 : (0 : Int) ≤ (f : Int) := by omega
      have HKL : Bx (kl.length = 8) := ⟨by rw [← hkl, last8_len, hn]; omega⟩
      have HGET : Bx (∀ (p i : Nat) (g : Bool), i = f + p → l[i]? = some g → kl[p]? = some g) := ⟨fun p i g hi hg => by
        rw [← hkl]; unfold last8; rw [hn, hf0, List.getElem?_drop, ← hi]; exact hg⟩
      rw [hkl] at HLEN HLI HBAD
      rw [HKL.out] at HLEN
      have HN := Bx.mk hn
      have HKN := Bx.mk (show kl.length ≤ 8 by rw [← hkl, last8_len]; omega)
      clear hn hkl hf0
      go_enter Try.func4, Try.ntmps4
      go_wp2_with fail
      refine HAW.out.mono ?_
      rintro e w1 ⟨rfl, hb⟩
      have HB1 := Bx.mk hb
      clear hb HAW
      go_wp2_with fail
      refine (HAD.out _ HB1.out).mono ?_
      rintro e w2 ⟨rfl, hs⟩
      have HB2 := Bx.mk (HB1.out.trans (hs.below _))
      clear hs HB1 HAD
      go_wp2_with fail
      refine (HLI.out _).mono ?_
      rintro e w3 ⟨A2, c2, rfl, ho, hb⟩
      rw [HKL.out] at ho ⊢
      have HB3 := Bx.mk (HB2.out.trans (hb.mono HB2.out.size))
      have HO := Bx.mk (bools_of ho)
      clear hb ho HB2 HLI
      go_wp2_with fail
      refine (HMAY.out _).mono ?_
      rintro e w4 ⟨rfl, hs⟩
      have HB4 := Bx.mk (HB3.out.trans (hs.below _))
      have HO4 := Bx.mk (HO.out.below' (hs.below _))
      clear hs HB3 HO HMAY
      go_wp2_with fail
      refine (HLEN.out _).mono ?_
      rintro e w5 ⟨rfl, hs⟩
      have HB5 := Bx.mk (HB4.out.trans (hs.below _))
      have HO5 := Bx.mk (HO4.out.below' (hs.below _))
      clear hs HB4 HO4
      go_wp2_with fail
      refine (HLEN.out _).mono ?_
      rintro e w6 ⟨rfl, hs⟩
      have HB6 := Bx.mk (HB5.out.trans (hs.below _))
      have HO6 := Bx.mk (HO5.out.below' (hs.below _))
      have HA6 := Bx.mk (HA.out.below' HB6.out)
      have H0 := Bx.mk (Below.refl w6.heap.size w6)
      clear hs HB5 HO5 HLEN HA
      go_wp2_with fail
      go_loopw [6, 7] (fun s6 s7 wr => ∃ i p : Nat, p ≤ 8 ∧ s7 = .int .i64 (i : Int) ∧ Bx (i = f + p) ∧ s6 = .int .i64 (bads (kl.take p) : Int) ∧ Bx (Below w6.heap.size w6 wr)) (fun _ s7 _ => n - (intOf s7).toNat)
      case atStart => exact ⟨f, 0, by omega, rfl, ⟨by omega⟩, rfl, H0⟩
      case round =>
        clear H0
        obtain ⟨i, p, hp, rfl, HI, rfl, HW⟩ := hrel
        by_cases hlt : p < 8
        · have hin : i < n := by have := HI.out; omega
          obtain ⟨g, hg⟩ : ∃ g, l[i]? = some g := ⟨_, List.getElem?_eq_getElem (by rw [HN.out]; exact hin)⟩
          have hkg := HGET.out p i g HI.out hg
          obtain ⟨g1, o1, eA, ho1, c1⟩ := (HA6.out.below' HW.out).cell (bv_get hg)
          obtain ⟨g2, o2, eA2, ho2, c2⟩ := (HO6.out.below' HW.out).cell (bv_get hkg)
          subst eA eA2
          have hbt := bads_take hkg
          have hm := bads_le (kl.take p)
          rw [List.length_take] at hm
          have HT := Bx.mk hbt
          generalize bads (kl.take p) = m at *
          have m8 : (m : Int) ≤ 8 := by have := HKN.out; omega
          have hidx : (i : Int) - (f : Int) = (p : Int) := by have := HI.out; omega
          have i0 : (0 : Int) ≤ (i : Int) := by omega
          have i1 : (i : Int) < (n : Int) := by omega
          have p0 : (0 : Int) ≤ (p : Int) := by omega
          have p1 : (p : Int) < 8 := by omega
          have n3 : (n : Int) ≤ 300 := by omega
          clear hbt hm hg hkg ho1 ho2
          cases g with
          | true =>
            go_wp2_with fail
            go_quiet (fail)
            have HW2 := Bx.mk (HW.out.trans (((Still.drewN _ nq).below _).mono HW.out.size))
            have c3 : (wr.drewN nq).cell? ⟨g1, o1 + i, none⟩ = some (.bool true) := c1
            clear HW c2 c1
            generalize wr.drewN nq = wq at *
            go_wp2
            go_roundw
            case rel => exact ⟨i + 1, p + 1, by omega, by go_num, ⟨by have := HI.out; omega⟩, by rw [HT.out]; rfl, HW2⟩
            case measure => (simp [intOf]) <;> omega
          | false =>
            go_wp2_with fail
            go_quiet (fail)
            have HW2 := Bx.mk (HW.out.trans (((Still.drewN _ nq).below _).mono HW.out.size))
            have c3 : (wr.drewN nq).cell? ⟨g1, o1 + i, none⟩ = some (.bool false) := c1
            clear HW c2 c1
            generalize wr.drewN nq = wq at *
            go_wp2
            go_roundw
            case rel => exact ⟨i + 1, p + 1, by omega, by go_num, ⟨by have := HI.out; omega⟩, by rw [HT.out]; unfold bad1; simp, HW2⟩
            case measure => (simp [intOf]) <;> omega
        · obtain rfl : p = 8 := by omega
          obtain rfl : i = n := by have := HI.out; omega
          have hfin : kl.take 8 = kl := by rw [List.take_of_length_le (by rw [HKL.out]; exact Nat.le_refl _)]
          rw [hfin]
          have HB7 := Bx.mk (HB6.out.trans (HW.out.mono HB6.out.size))
          clear hfin HW HB6
          go_wp2_with fail
          refine (HBAD.out _).mono ?_
          rintro e w8 ⟨rfl, hb⟩
          have HB8 := Bx.mk (HB7.out.trans (hb.mono HB7.out.size))
          clear hb HB7
          go_wp2_with fail
          go_ret
          exact ⟨rfl, HB8.out⟩
  · have h3i : (300 : Int) < (n : Int) := by omega
    clear ha hn h300
    go_enter Try.func4, Try.ntmps4
    go_wp2_with fail
    refine HAW.out.mono ?_
    rintro e w1 ⟨rfl, hb⟩
    have HB1 := Bx.mk hb
    clear hb HAW
    go_wp2_with fail
    go_ret
    exact ⟨rfl, HB1.out⟩
end Go.Proofs.Ytlamhcdgpodbhaa.wn
