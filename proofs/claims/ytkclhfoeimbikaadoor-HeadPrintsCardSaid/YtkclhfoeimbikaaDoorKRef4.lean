/-
  Given for the seat's laws: the document's Same. No condition but those of the theorem.
-/
import Derived.Test.YtkclhfoeimbikaaDoorKLOnce
import Derived.Test.YtkclhfoeimbikaaDoorKRef1
namespace Go.Proofs.YtkclhfoeimbikaaDoor.hd
open Go.RowKit mem
set_option linter.unusedVariables false

set_option maxHeartbeats 4000000 in
theorem RSame_any {w : World} {oka okb : Nat → Prop} {A B : Option Addr} {n c m d : Nat} {la lb : Str} {a b : Flds} (ha : FAt w oka A n c a) (hka : ∀ g, oka g → g < w.heap.size) (hb : FAt w okb B m d b) (hkb : ∀ g, okb g → g < w.heap.size) (hmx : n ≤ 100000) :
    Calls Tryd.prog 11 #[.agg #[.string (S la), .slice A n c], .agg #[.string (S lb), .slice B m d]] w fun e w' => e = .returned (.bool (decide (la = lb ∧ a = b))) ∧ Below w.heap.size w w' := by
  obtain ⟨r, hr⟩ : ∃ r, decide (la = lb ∧ a = b) = r := ⟨_, rfl⟩
  rw [hr]
  have HR := Bx.mk hr
  have HN := Bx.mk ha.len
  have HM := Bx.mk hb.len
  have HB0 : Bx (Below w.heap.size w ((w.alloc (.cells #[.string (S la), .slice A n c] 25)).alloc (.cells #[.string (S lb), .slice B m d] 25))) := ⟨((Below.refl _ _).alloc (Nat.le_refl _) _).alloc (by simp) _⟩
  by_cases e : la = lb
  · have heq : ((S la).toList == (S lb).toList) = true := by rw [beq_S, decide_eq_true e]
    have hne : ((S la).toList != (S lb).toList) = false := by rw [bne, heq]; rfl
    by_cases hnm : n = m
    · subst hnm
      have hnn : ((n : Int) != (n : Int)) = false := by simp
      have L1 := (Lies.new w 25 #[.string (S la), .slice A n c]).alloc (.cells #[.string (S lb), .slice B n d] 25)
      have L2 := Lies.new (w.alloc (.cells #[.string (S la), .slice A n c] 25)) 25 #[.string (S lb), .slice B n d]
      have hs1 : (w.alloc (.cells #[.string (S la), .slice A n c] 25)).heap.size = w.heap.size + 1 := by simp
      rw [hs1] at L2
      have HL1 := Bx.mk L1
      have HL2 := Bx.mk L2
      have HA := Bx.mk (ha.below HB0.out hka)
      have HBB := Bx.mk (hb.below HB0.out hkb)
      have HKA := Bx.mk hka
      have HKB := Bx.mk hkb
      have hsz0 := HB0.out.size
      clear ha hb hr L1 L2 hs1
      have HE := Bx.mk e
      clear e
      go_enter Tryd.func11, Tryd.ntmps11
      go_upto_region 1 with fail
      generalize hW : ((w.alloc (.cells #[.string (S la), .slice A n c] 25)).alloc (.cells #[.string (S lb), .slice B n d] 25)) = W0 at *
      have c0 := HL1.out.cell 0; have c1 := HL1.out.cell 1
      have d0 := HL2.out.cell 0; have d1 := HL2.out.cell 1
      simp at c0 c1 d0 d1
      have H1 := Bx.mk (Below.refl W0.heap.size W0)
      clear hW
      go_wp2_with fail
      clear c0 c1 d0 d1
      go_loopw [5] (fun s5 wr => ∃ i : Nat, i ≤ n ∧ s5 = .int .i64 (i : Int) ∧ Bx (a.take i = b.take i) ∧ Bx (Below W0.heap.size W0 wr)) (fun s5 _ => n - (intOf s5).toNat)
      case atStart => exact ⟨0, by omega, rfl, ⟨rfl⟩, H1⟩
      case round =>
        clear H1
        obtain ⟨i, hi, rfl, HT, HB⟩ := hrel
        have c1 := (HL1.out.below HB.out HL1.out.lt).cell 1
        have d1 := (HL2.out.below HB.out HL2.out.lt).cell 1
        simp at c1 d1
        by_cases hlt : i < n
        · obtain ⟨x, hx⟩ : ∃ x, a[i]? = some x := ⟨_, List.getElem?_eq_getElem (by rw [HN.out]; exact hlt)⟩
          obtain ⟨y, hy⟩ : ∃ y, b[i]? = some y := ⟨_, List.getElem?_eq_getElem (by rw [HM.out]; exact hlt)⟩
          obtain ⟨g1, o1, rfl, ho1, y1, y1'⟩ := (HA.out.below HB.out (fun g hg => Nat.lt_of_lt_of_le (HKA.out g hg) hsz0)).at hx
          obtain ⟨g2, o2, rfl, ho2, y2, y2'⟩ := (HBB.out.below HB.out (fun g hg => Nat.lt_of_lt_of_le (HKB.out g hg) hsz0)).at hy
          have HX := Bx.mk hx
          have HY := Bx.mk hy
          have HB1 := Bx.mk HB.out.drew
          have i0 : (0 : Int) ≤ (i : Int) := by omega
          have i1 : (i : Int) < (n : Int) := by omega
          by_cases e : x = y
          · have HT2 := Bx.mk (take_eq_add HT.out hx hy e)
            have hq := eq_two_d 9998 x y wr.drew
            rw [decide_eq_true e] at hq
            clear hx hy HB ho1 ho2 e
            go_upto_region 6 with fail
            go_region
            all_goals
              go_wp2_with fail
              go_roundw
              case rel => exact ⟨i + 1, by omega, by go_num, HT2, HB1⟩
              case measure => simp [intOf]; omega
          · have hf : r = false := by
              rw [← HR.out]
              refine decide_eq_false fun e2 => e ?_
              rw [e2.2, hy] at hx
              exact (Option.some.inj hx).symm
            subst hf
            have hq := eq_two_d 9998 x y wr.drew
            rw [decide_eq_false e] at hq
            have HF := Bx.mk (HB0.out.trans (HB1.out.mono hsz0))
            clear hx hy HB ho1 ho2 e HB0 HB1
            go_upto_region 6 with fail
            go_region
            all_goals
              go_wp2_with fail
              exact bodyPost_ret (v := .bool false) (by simp [results, Tryd.results11, go_sem]) rfl ⟨rfl, HF.out⟩
        · obtain rfl : i = n := by omega
          have ht : r = true := by
            rw [← HR.out]
            have := HT.out
            rw [List.take_of_length_le (by rw [HN.out]; exact Nat.le_refl _), List.take_of_length_le (by rw [HM.out]; exact Nat.le_refl _)] at this
            exact decide_eq_true ⟨HE.out, this⟩
          subst ht
          have HF := Bx.mk (HB0.out.trans (HB.out.mono hsz0))
          clear HB HB0
          go_wp2_with fail
          exact bodyPost_ret (v := .bool true) (by simp [results, Tryd.results11, go_sem]) rfl ⟨rfl, HF.out⟩
    · have hf : r = false := by
        rw [← hr]
        refine decide_eq_false fun e => hnm ?_
        rw [← HN.out, ← HM.out, e.2]
      subst hf
      have hnn : ((n : Int) != (m : Int)) = true := by simp; omega
      clear hr ha hb hnm hka hkb e
      go_enter Tryd.func11, Tryd.ntmps11
      go_wp2_with fail
      exact bodyPost_ret (v := .bool false) (by simp [results, Tryd.results11, go_sem]) rfl ⟨rfl, HB0.out⟩
  · have heq : ((S la).toList == (S lb).toList) = false := by rw [beq_S, decide_eq_false e]
    have hne : ((S la).toList != (S lb).toList) = true := by rw [bne, heq]; rfl
    have hf : r = false := by rw [← hr]; exact decide_eq_false fun h => e h.1
    subst hf
    clear hr ha hb hka hkb e
    go_enter Tryd.func11, Tryd.ntmps11
    go_wp2_with fail
    exact bodyPost_ret (v := .bool false) (by simp [results, Tryd.results11, go_sem]) rfl ⟨rfl, HB0.out⟩
end Go.Proofs.YtkclhfoeimbikaaDoor.hd
