/-
  Given for the seat's laws: the contracts of the document's own Bad, Same, Number, Add. No condition but those of the theorems.
-/
import Derived.Test.YtlamhcdgpodbhaaWRList
namespace Go.Proofs.Ytlamhcdgpodbhaa.wn
open Go.RowKit mem
set_option linter.unusedVariables false

theorem bools_own {w : World} {B : Nat} {A : Option Addr} {n c : Nat} {l : Out} (h : w.ownsRow B 4 1 (.slice A n c) n (bv l)) : Bools w A l := (RowAt.of_own h).weak (fun g hg => hg.2.1)

set_option maxHeartbeats 2000000 in
set_option maxRecDepth 100000 in
theorem rbad_any (x : Nat) (hx : x < 65536) (w : World) : Calls Try.prog 10 #[.int .u16 (x : Int)] w fun e w' => e = .returned (.int .i64 (bads (lst x) : Int)) ∧ Below w.heap.size w w' := by
  have HR := Bx.mk (rlist_any x hx w)
  have hn := lst_len x
  have hk8 := hk_le x
  generalize lst x = l at *
  generalize may x = r at *
  go_enter Try.func10, Try.ntmps10
  go_wp2_with fail
  refine HR.out.mono ?_
  rintro e w1 ⟨A, c, rfl, ho, hb1⟩
  have HL := Bx.mk (RowAt.weak (ok' := fun g => g < w1.heap.size) (RowAt.of_own ho) (fun g hg => hg.2.1))
  obtain ⟨n, hn2⟩ : ∃ n, l.length = n := ⟨_, rfl⟩
  rw [hn2] at hn
  rw [hn2]
  have HN := Bx.mk hn2
  have n8 : (n : Int) ≤ 8 := by omega
  have HB := Bx.mk hb1
  clear ho hb1 hn2 hn HR
  go_wp2_with fail
  go_loopw [5, 6] (fun s5 s6 wr => ∃ i : Nat, i ≤ n ∧ s6 = .int .i64 (i : Int) ∧ s5 = .int .i64 (bads (l.take i) : Int) ∧ wr = w1) (fun _ s6 _ => n - (intOf s6).toNat)
  case atStart => exact ⟨0, by omega, rfl, rfl, rfl⟩
  case round =>
    obtain ⟨i, hi, rfl, rfl, rfl⟩ := hrel
    by_cases hlt : i < n
    · obtain ⟨g, hg⟩ : ∃ g, l[i]? = some g := ⟨_, List.getElem?_eq_getElem (by rw [HN.out]; exact hlt)⟩
      obtain ⟨gb, off, rfl, hgb, cg⟩ := HL.out.cell (bv_get hg)
      have hbt := bads_take hg
      have hm := bads_le (l.take i)
      rw [List.length_take] at hm
      have HT := Bx.mk hbt
      generalize bads (l.take i) = m at *
      have m8 : (m : Int) ≤ 8 := by omega
      have i0 : (0 : Int) ≤ (i : Int) := by omega
      have i1 : (i : Int) < (n : Int) := by omega
      clear hbt hm hg hgb
      cases g with
      | true =>
        go_wp2
        go_roundw
        case rel => exact ⟨i + 1, by omega, by go_num, by rw [HT.out]; rfl, by first | rfl | trivial⟩
        case measure => (simp [intOf]) <;> omega
      | false =>
        go_wp2
        go_roundw
        case rel => exact ⟨i + 1, by omega, by go_num, by rw [HT.out]; unfold bad1; simp, by first | rfl | trivial⟩
        case measure => (simp [intOf]) <;> omega
    · obtain rfl : i = n := by omega
      have hfin : bads (l.take i) = bads l := by rw [List.take_of_length_le (by rw [HN.out]; exact Nat.le_refl _)]
      rw [hfin]
      clear hfin
      go_wp2
      go_ret
      exact ⟨rfl, HB.out⟩

set_option maxHeartbeats 4000000 in
set_option maxRecDepth 100000 in
theorem rsame_any {w : World} {A B : Option Addr} {n c m d : Nat} {a b : Out} (hn : a.length = n) (ha : Bools w A a) (hm : b.length = m) (hb : Bools w B b) (hmx : n ≤ 100000) :
    Calls Try.prog 11 #[.slice A n c, .slice B m d] w fun e w' => e = .returned (.bool (decide (a = b))) ∧ Below w.heap.size w w' := by
  obtain ⟨r, hr⟩ : ∃ r, decide (a = b) = r := ⟨_, rfl⟩
  rw [hr]
  have HR := Bx.mk hr
  by_cases hnm : n = m
  · subst hnm
    have HA := Bx.mk ha
    have HBB := Bx.mk hb
    have HN := Bx.mk hn
    have HM := Bx.mk hm
    have H0 := Bx.mk (Below.refl w.heap.size w)
    clear ha hb hn hm hr
    go_enter Try.func11, Try.ntmps11
    go_wp2
    go_loopw [5] (fun s5 wr => ∃ i : Nat, i ≤ n ∧ s5 = .int .i64 (i : Int) ∧ Bx (a.take i = b.take i) ∧ Bx (Below w.heap.size w wr)) (fun s5 _ => n - (intOf s5).toNat)
    case atStart => exact ⟨0, by omega, rfl, ⟨rfl⟩, H0⟩
    case round =>
      clear H0
      obtain ⟨i, hi, rfl, HT, HB⟩ := hrel
      by_cases hlt : i < n
      · obtain ⟨x, hx⟩ : ∃ x, a[i]? = some x := ⟨_, List.getElem?_eq_getElem (by rw [HN.out]; exact hlt)⟩
        obtain ⟨y, hy⟩ : ∃ y, b[i]? = some y := ⟨_, List.getElem?_eq_getElem (by rw [HM.out]; exact hlt)⟩
        obtain ⟨g1, o1, rfl, ho1, c1⟩ := (HA.out.below HB.out (fun g hg => hg)).cell (bv_get hx)
        obtain ⟨g2, o2, rfl, ho2, c2⟩ := (HBB.out.below HB.out (fun g hg => hg)).cell (bv_get hy)
        have HX := Bx.mk hx
        have HY := Bx.mk hy
        have HB1 := Bx.mk HB.out.drew
        have i0 : (0 : Int) ≤ (i : Int) := by omega
        have i1 : (i : Int) < (n : Int) := by omega
        clear hx hy HB
        by_cases hxy : x = y
        · have HT2 : Bx (a.take (i + 1) = b.take (i + 1)) := ⟨by rw [List.take_add_one, List.take_add_one, HT.out, HX.out, HY.out, hxy]⟩
          subst hxy
          clear HT HX HY
          cases x
          all_goals
            go_wp2
            go_region
            all_goals
              go_wp2
              go_roundw
              case rel => exact ⟨i + 1, by omega, by go_num, HT2, HB1⟩
              case measure => simp [intOf]; omega
        · have hrf : r = false := by
            rw [← HR.out]
            refine decide_eq_false (fun e => hxy ?_)
            have := HX.out
            rw [e, HY.out] at this
            exact (Option.some.inj this).symm
          have HRF := Bx.mk hrf
          clear hrf HX HY HT HR
          cases x <;> cases y
          all_goals first | exact absurd rfl hxy | skip
          all_goals
            clear hxy
            go_wp2
            go_region
            all_goals
              go_wp2
              go_ret
              exact ⟨by rw [HRF.out]; rfl, HB1.out⟩
      · obtain rfl : i = n := by omega
        have hab : a = b := by
          have h := HT.out
          rwa [List.take_of_length_le (by rw [HN.out]; exact Nat.le_refl _), List.take_of_length_le (by rw [HM.out]; exact Nat.le_refl _)] at h
        have HRT := Bx.mk (show r = true by rw [← HR.out]; exact decide_eq_true hab)
        clear hab
        go_wp2
        go_ret
        exact ⟨by rw [HRT.out]; rfl, HB.out⟩
  · have hne : ((n : Int) != (m : Int)) = true := by simpa using (by omega : ¬ (n : Int) = (m : Int))
    have hrf : r = false := by
      rw [← hr]
      refine decide_eq_false (fun e => hnm ?_)
      rw [← hn, ← hm, e]
    have HRF := Bx.mk hrf
    clear ha hb hn hm hr hnm hrf
    go_enter Try.func11, Try.ntmps11
    go_wp2
    go_ret
    exact ⟨by rw [HRF.out]; rfl, Below.refl _ _⟩

theorem cut_b (W : World) (A : Option Addr) (n c k : Nat) (h : k ≤ n) :
    (Instr.slice 24 (.slice A n c) (some (.int .i64 (k : Int))) none none).run Try.prog W = .ok (.slice (if c = k then A else A.map (·.add k)) (n - k : Nat) (c - k : Nat)) W := by
  obtain ⟨i0, hi, hz0, hz1, hz2⟩ := info_parts (show (Try.prog.info? 4).map (fun i => (i.zero, i.size, i.bytes)) = some (some (.bool false), 1, 1) by kernel_rfl)
  rw [run_slice_l W 24 _ n c (by kernel_rfl) .i64 _ (by omega) (by omega)]
  have he : Try.prog.elem 24 = 4 := by kernel_rfl
  rw [he]
  have hs : (sizeOf 4).run Try.prog W = .ok 1 W := by simp [sizeOf, typeInfo, hi, hz1]
  rw [hs]
  simp only [Result.andThen, sliced, Int.toNat_natCast, Nat.mul_one]
theorem RowAt.drop {w : World} {ok : Nat → Prop} {A : Option Addr} {vs : List Value} (h : RowAt w ok A vs) (k : Nat) : RowAt w ok (A.map (·.add k)) (vs.drop k) := ⟨fun hp => by
  obtain ⟨g, off, e, ho, hc⟩ := h.ex (by simp at hp; omega)
  subst e
  refine ⟨g, off + k, ?_, ho, fun j v hj => ?_⟩
  · by_cases hn : k = 0 <;> simp [Addr.add, hn]
  · rw [List.getElem?_drop] at hj
    have := hc (k + j) v hj
    rwa [← Nat.add_assoc] at this⟩
/-- the number that the document's own Number comes to, of at most eight -/
theorem val_8 {l : Out} (h : l.length ≤ 8) : val l < 256 := by
  have := val_lt _ l rfl
  have := pow_le _ h
  omega
end Go.Proofs.Ytlamhcdgpodbhaa.wn
