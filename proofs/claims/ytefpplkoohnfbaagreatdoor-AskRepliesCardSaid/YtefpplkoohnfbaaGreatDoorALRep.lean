/-
  Given for the seat's laws: AskReplies at any code and bytes. No condition but those of the theorem.
-/
import Derived.Test.YtefpplkoohnfbaaGreatDoorAAwk
namespace Go.Proofs.YtefpplkoohnfbaaGreatDoor.ak
open Go.RowKit mem hostp hw own
set_option linter.unusedVariables false

theorem num_zero {k : Nat} (hk : k ≠ 0) : num k ≠ 0 := by
  by_cases h : k < 14
  · have : ∀ i : Fin 14, i.1 ≠ 0 → num i.1 ≠ 0 := by decide
    exact this ⟨k, h⟩ hk
  · rw [num_big (by omega)]; decide
theorem rpl_ch (k : Nat) (b : Str) : ch (rpl (num k) ++ b) = ⟨num k, 10, 0⟩ := by
  have h := ch_reply (UInt8.ofNat (num k)) b
  have e : (UInt8.ofNat (num k)).toNat = num k := by have := num_lt k; simp; omega
  rw [e] at h
  exact h
set_option maxHeartbeats 4000000 in
set_option maxRecDepth 100000 in
theorem replies_walk {w : World} {k : Int} (h0 : 0 ≤ k) (h1 : k < 256) {A : Option Addr} {n c : Nat} {bs : List Int} (hs0 : Src w (fun g => g < w.heap.size) A n c bs) (he : Env w) (hN : Nums w) : Calls Tryz.prog 7 #[.int .u8 k, .slice A n c] w (True_ w) := by
  obtain ⟨b, rfl⟩ := ints_of hs0.rng
  have hs : Spell w (fun g => g < w.heap.size) A n c b := hs0
  have hbl := spell_len hs
  obtain ⟨j, rfl⟩ : ∃ j : Nat, k = (j : Int) := ⟨k.toNat, by omega⟩
  have HA := Bx.mk (awake_any w he hN)
  have HN : Bx (∀ V, Below w.heap.size w V → Nums V) := ⟨fun V hV => hN.below hV (Nat.le_refl _)⟩
  have HS := Bx.mk hs
  clear hs hs0 he hN
  by_cases h3 : 300 < n
  · clear HS
    go_enter Tryz.func7, Tryz.ntmps7
    go_wp2_with fail
    refine HA.out.mono ?_
    rintro e w1 ⟨rfl, hb1⟩
    have HB := Bx.mk hb1
    clear hb1
    go_wp2_with fail
    go_ret
    exact ⟨rfl, HB.out⟩
  · have hn3 : ¬ (300 : Int) < (n : Int) := by omega
    have hj : j < 256 := by omega
    have hm := num_lt j
    have HBL := Bx.mk hbl
    clear h3 hbl
    go_enter Tryz.func7, Tryz.ntmps7
    go_wp2_with fail
    refine HA.out.mono ?_
    rintro e w1 ⟨rfl, hb1⟩
    have HB1 := Bx.mk hb1
    have HR := Bx.mk (reply_any j hj w1 (HN.out _ hb1))
    clear hb1 HA
    go_wp2_with fail
    refine HR.out.mono ?_
    rintro e w2 ⟨A2, c2, rfl, hm2⟩
    have hl : (rpl (num j)).length = 10 := rfl
    rw [hl] at hm2 ⊢
    have hb2 : Below w.heap.size w w2 := HB1.out.trans (hm2.below.mono HB1.out.size)
    obtain ⟨A3, c3, w3, ha3, hm3⟩ := Made.app hm2 (Below.refl _ _) (HS.out.below hb2 (fun g hg => hg)) (by rw [hl]; omega)
    rw [hl] at ha3 hm3
    have hl3 : (rpl (num j) ++ b).length = 10 + n := by rw [List.length_append, hl, HBL.out]
    have HAp := Bx.mk ha3
    have HT := Bx.mk (rep_as (made_spell hm3 hl3) (fun g hg => hg) (by omega) (rpl_ch j b))
    have HB3 := Bx.mk (HB1.out.trans (hm3.below.mono HB1.out.size))
    clear ha3 hm3 hm2 hb2 HR hl hl3 HS HB1
    go_wp2_with (at_builtin; refine wpList_append_eq rfl _ _ rfl rfl rfl rfl HAp.out ?_)
    refine HT.out.mono ?_
    rintro e w4 ⟨rfl, hb4⟩
    have HB4 := Bx.mk (HB3.out.trans (hb4.mono HB3.out.size))
    have HNm := Bx.mk (number_any j hj w4 (HN.out _ HB4.out))
    clear hb4 HT HB3 HN
    go_wp2_with fail
    refine HNm.out.mono ?_
    rintro e w5 ⟨rfl, rfl⟩
    have q8 : (num j : Int) ≤ 8 := by omega
    by_cases hj0 : j = 0
    · subst hj0
      have e0 : num 0 = 0 := rfl
      rw [e0]
      clear HNm q8 hm
      go_wp2_with fail
      go_ret
      exact ⟨rfl, HB4.out⟩
    · have q1 : (((j : Nat) : Int) == 0) = false := by simp; omega
      have q2 : ((num j : Int) == 0) = false := by have := num_zero hj0; simp; omega
      clear HNm hj0 hm
      generalize (num j : Int) = z at *
      go_wp2_with fail
      go_ret
      exact ⟨rfl, HB4.out⟩
end Go.Proofs.YtefpplkoohnfbaaGreatDoor.ak
