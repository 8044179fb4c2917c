/-
  Given for the seat's laws: the contracts of the document's own Number and Add. No condition but those of the theorems.
-/
import Derived.Test.YtlamhcdgpodbhaaWRefs
namespace Go.Proofs.Ytlamhcdgpodbhaa.wn
open Go.RowKit mem
set_option linter.unusedVariables false

set_option maxHeartbeats 4000000 in
set_option maxRecDepth 100000 in
theorem rnumber_any {w : World} {A : Option Addr} {n c : Nat} {l : Out} (hn : l.length = n) (ha : Bools w A l) (hm : n ≤ 9) (hc : n ≤ c) (hc2 : c ≤ maxLen) :
    Calls Try.prog 20 #[.slice A n c] w fun e w' => e = .returned (.int .u16 (num l : Int)) ∧ Below w.heap.size w w' := by
  obtain ⟨z, hz⟩ : ∃ z, num l = z := ⟨_, rfl⟩
  rw [hz]
  unfold num at hz
  by_cases h8 : n ≤ 8
  · rw [last8_short (by omega), hn] at hz
    have HZ := Bx.mk hz
    have HA := Bx.mk ha
    have HN := Bx.mk hn
    have h8i : (n : Int) ≤ 8 := by omega
    clear hz ha hn
    go_enter Try.func20, Try.ntmps20
    go_wp2
    go_loopw [3, 4] (fun s3 s4 wr => ∃ i : Nat, i ≤ n ∧ s4 = .int .i64 (i : Int) ∧ s3 = .int .u16 (val (l.take i) : Int) ∧ wr = w) (fun _ s4 _ => n - (intOf s4).toNat)
    case atStart => exact ⟨0, by omega, rfl, rfl, rfl⟩
    case round =>
      obtain ⟨i, hi, rfl, rfl, rfl⟩ := hrel
      by_cases hlt : i < n
      · obtain ⟨g, hg⟩ : ∃ g, l[i]? = some g := ⟨_, List.getElem?_eq_getElem (by rw [HN.out]; exact hlt)⟩
        obtain ⟨gb, off, rfl, hgb, cg⟩ := HA.out.cell (bv_get hg)
        have hvt := val_take hg
        have hm := val_8 (l := l.take i) (by rw [List.length_take]; omega)
        have HT := Bx.mk hvt
        generalize val (l.take i) = m at *
        have m8 : (m : Int) < 256 := by omega
        have i0 : (0 : Int) ≤ (i : Int) := by omega
        have i1 : (i : Int) < (n : Int) := by omega
        clear hvt hm hg hgb
        cases g with
        | true =>
          go_wp2
          go_roundw
          case rel => exact ⟨i + 1, by omega, by go_num, by rw [HT.out]; unfold bad1; simp, by first | rfl | trivial⟩
          case measure => (simp [intOf]) <;> omega
        | false =>
          go_wp2
          go_roundw
          case rel => exact ⟨i + 1, by omega, by go_num, by rw [HT.out]; unfold bad1; simp, by first | rfl | trivial⟩
          case measure => (simp [intOf]) <;> omega
      · obtain rfl : i = n := by omega
        have hfin : val (l.take i) = val l := by rw [List.take_of_length_le (by rw [HN.out]; exact Nat.le_refl _)]
        have hv8 := val_8 (l := l) (by rw [HN.out]; omega)
        rw [hfin]
        generalize val l = m at *
        have m8 : (m : Int) < 256 := by omega
        clear hfin hv8
        go_wp2
        go_ret
        exact ⟨ret_u16 (by have := HZ.out; omega), Below.refl _ _⟩
  · obtain rfl : n = 9 := by omega
    obtain ⟨l2, hl2⟩ : ∃ l2, last8 l = l2 := ⟨_, rfl⟩
    have hl2n : l2.length = 8 := by rw [← hl2, last8_len, hn]; rfl
    obtain ⟨g, off, rfl, hg, hcs⟩ := ha.ex (by rw [bv_len]; omega)
    have ha2 : Bools w (some ⟨g, off + 1, none⟩) l2 := by
      have h1 := RowAt.drop ha 1
      have e : (bv l).drop 1 = bv l2 := by rw [← hl2]; unfold last8 bv; rw [hn, List.map_drop]
      rw [e] at h1
      exact h1
    have hcut := fun W => cut_b W (some ⟨g, off, none⟩) 9 c 1 (by omega)
    rw [if_neg (by omega)] at hcut
    rw [hl2, hl2n] at hz
    clear ha hn hl2 h8 hg hcs
    have HZ := Bx.mk hz
    have HA := Bx.mk ha2
    have HN := Bx.mk hl2n
    clear hz ha2 hl2n
    go_enter Try.func20, Try.ntmps20
    go_wp2
    go_loopw [3, 4] (fun s3 s4 wr => ∃ i : Nat, i ≤ 8 ∧ s4 = .int .i64 (i : Int) ∧ s3 = .int .u16 (val (l2.take i) : Int) ∧ wr = w) (fun _ s4 _ => 8 - (intOf s4).toNat)
    case atStart => exact ⟨0, by omega, rfl, rfl, rfl⟩
    case round =>
      obtain ⟨i, hi, rfl, rfl, rfl⟩ := hrel
      by_cases hlt : i < 8
      · obtain ⟨g, hg⟩ : ∃ g, l2[i]? = some g := ⟨_, List.getElem?_eq_getElem (by rw [HN.out]; exact hlt)⟩
        obtain ⟨gb, off2, hA2, hgb, cg⟩ := HA.out.cell (bv_get hg)
        cases hA2
        have hvt := val_take hg
        have hm := val_8 (l := l2.take i) (by rw [List.length_take]; omega)
        have HT := Bx.mk hvt
        generalize val (l2.take i) = m at *
        have m8 : (m : Int) < 256 := by omega
        have i0 : (0 : Int) ≤ (i : Int) := by omega
        have i1 : (i : Int) < 8 := by omega
        clear hvt hm hg hgb
        cases g with
        | true =>
          go_wp2
          go_roundw
          case rel => exact ⟨i + 1, by omega, by go_num, by rw [HT.out]; unfold bad1; simp, by first | rfl | trivial⟩
          case measure => (simp [intOf]) <;> omega
        | false =>
          go_wp2
          go_roundw
          case rel => exact ⟨i + 1, by omega, by go_num, by rw [HT.out]; unfold bad1; simp, by first | rfl | trivial⟩
          case measure => (simp [intOf]) <;> omega
      · obtain rfl : i = 8 := by omega
        have hfin : val (l2.take 8) = val l2 := by rw [List.take_of_length_le (by rw [HN.out]; exact Nat.le_refl _)]
        have hv8 := val_8 (l := l2) (by rw [HN.out]; omega)
        rw [hfin]
        generalize val l2 = m at *
        have m8 : (m : Int) < 256 := by omega
        clear hfin hv8
        go_wp2
        go_ret
        exact ⟨ret_u16 (by have := HZ.out; omega), Below.refl _ _⟩

/-- one outcome more, onto outcomes of the call's own -/
theorem own_push {w w1 : World} {v : Value} {l : Out} (ho : w1.ownsRow w.heap.size 4 1 v l.length (bv l)) (hb : Below w.heap.size w w1) (hl : l.length ≤ 100) (g : Bool) :
    ∃ A c w2, (Builtin.append_ #[24, 24] 24 #[v, .slice (some ⟨w1.heap.size, 0, none⟩) 1 1]).run Try.prog (w1.alloc (.cells #[.bool g] 4)) = .ok (.slice A (l.length + 1 : Nat) c) w2 ∧ Bools w2 A (l ++ [g]) ∧ l.length + 1 ≤ c ∧ c ≤ maxLen ∧ Below w.heap.size w w2 := by
  have hM : MadeR 4 w w1 v (bv l) := ⟨by rw [bv_len]; exact ho, hb⟩
  obtain ⟨A, c, w2, hr, hm, _⟩ := hM.push kBool (.bool g) rfl (n := l.length) (bv_len l) (by omega) (by unfold maxLen; omega)
  have hown := hm.own
  rw [← bv_snoc, bv_len] at hown
  have hll : (l ++ [g]).length = l.length + 1 := by simp
  rw [hll] at hown
  refine ⟨A, c, w2, hr, bools_own hown, ?_, ?_, hm.below⟩
  · rcases hown.2 with ⟨_, h⟩ | ⟨g', cap, cur, hv, _, _, hc, _⟩
    · omega
    · simp only [Value.slice.injEq] at hv
      omega
  · rcases hown.2 with ⟨_, h⟩ | ⟨g', cap, cur, hv, _, _, _, hc, _⟩
    · omega
    · simp only [Value.slice.injEq] at hv
      omega

set_option maxHeartbeats 4000000 in
set_option maxRecDepth 100000 in
theorem radd_any (x : Nat) (hx : x < 65536) (g : Bool) (w : World) : Calls Try.prog 14 #[.int .u16 (x : Int), .bool g] w fun e w' => e = .returned (.int .u16 (addw x g : Int)) ∧ Below w.heap.size w w' := by
  have HR := Bx.mk (rlist_any x hx w)
  have hn := lst_len x
  have hk8 := hk_le x
  have HZ := Bx.mk (num_add x g)
  generalize addw x g = z at *
  generalize lst x = l at *
  generalize may x = r at *
  rw [← hn] at hk8
  clear hn
  go_enter Try.func14, Try.ntmps14
  go_wp2_with fail
  refine HR.out.mono ?_
  rintro e w1 ⟨A, c, rfl, ho, hb1⟩
  obtain ⟨A2, c2, w2, happ, hbo, hc1, hc2, hb2⟩ := own_push ho hb1 (by omega) g
  have HN := Bx.mk (rnumber_any (c := c2) (n := l.length + 1) (by simp) hbo (by omega) hc1 hc2)
  have HB := Bx.mk hb2
  clear ho hb1 hbo hc1 hc2 hb2
  go_wp2_with (refine wpList_append_g rfl _ _ rfl rfl rfl rfl happ ?_)
  refine HN.out.mono ?_
  rintro e w3 ⟨rfl, hb3⟩
  have HB3 := Bx.mk (HB.out.trans (hb3.mono HB.out.size))
  clear hb3
  go_wp2_with fail
  go_ret
  exact ⟨by rw [← HZ.out]; rfl, HB3.out⟩
end Go.Proofs.Ytlamhcdgpodbhaa.wn
