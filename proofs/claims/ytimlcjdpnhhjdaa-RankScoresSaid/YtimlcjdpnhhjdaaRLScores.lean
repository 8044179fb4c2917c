/-
  Given for the seat's laws: the law RankScores answers true over whatever memory. No condition but those of the theorems.
-/
import Derived.Test.YtimlcjdpnhhjdaaRTell
import Derived.Test.YtimlcjdpnhhjdaaRRef2
import Derived.Test.YtimlcjdpnhhjdaaRGreat
namespace Go.Proofs.Ytimlcjdpnhhjdaa.rk
open Go.RowKit mem sp
set_option linter.unusedVariables false

set_option maxHeartbeats 4000000 in
set_option maxRecDepth 100000 in
theorem scores_any {w : World} {A : Option Addr} {n c : Nat} {key : Str} (hs : Spell w (fun g => g < w.heap.size) A n c key) (b : Str) (i : UInt8) (z : Int) : Calls Try.prog 3 #[.slice A n c, .string (S b), .int .u8 (i.toNat : Int), .int .i64 z] w (True_ w) := by
  obtain ⟨w0, hw0⟩ : ∃ w0, w0 = w.alloc (.cells #[.string (S b)] 9) := ⟨_, rfl⟩
  have hb0 : Below w.heap.size w w0 := by rw [hw0]; exact (Below.refl _ w).alloc (Nat.le_refl _) _
  have hr : RowAt w0 (fun g => g = w.heap.size) (some ⟨w.heap.size, 0, none⟩) (strs [b]) := by rw [hw0]; exact .of_lies (Lies.new w 9 #[.string (S b)]) rfl rfl
  have HG := Bx.mk (great_any (K := A) (n := n) (c := c) (d := 1) (l := [b]) (m := 1) rfl hr)
  have HB0 := Bx.mk hb0
  obtain ⟨g, hg⟩ : ∃ g, gr n [b] = g := ⟨_, rfl⟩
  rw [hg] at HG
  cases g with
  | true =>
    clear hs hb0 hr
    go_enter Try.func3, Try.ntmps3
    go_wp2_with fail
    rw [← hw0]
    refine HG.out.mono ?_
    rintro e w1 ⟨rfl, rfl⟩
    clear hw0
    go_wp2_with fail
    go_ret
    exact ⟨rfl, HB0.out⟩
  | false =>
    obtain ⟨hn, -, hb⟩ := gr_no hg
    have hb := hb b (by simp)
    have HSP : Bx (∀ W, Below w.heap.size w W → Spell W (fun g => g < w.heap.size) A n c key) := ⟨fun W hW => hs.below hW (fun _ h => h)⟩
    have H1 : Bx (∀ W, Below w.heap.size w W → Calls Try.prog 10 #[.slice A n c, .string (S b), .int .i64 z] W (TellTo (scoK key b z) W)) := ⟨fun W hW => score_any (HSP.out W hW) (fun g hg => Nat.lt_of_lt_of_le hg hW.size) b (by omega) z⟩
    have H2 : Bx (∀ W, Below w.heap.size w W → Calls Try.prog 11 #[.slice A n c, .string (S b), .int .i64 z] W (TellTo2 (scoK key b z) W)) := ⟨fun W hW => rscore_any (HSP.out W hW) (fun g hg => Nat.lt_of_lt_of_le hg hW.size) (by omega) b (by omega) z⟩
    have H3 : Bx (∀ W, Below w.heap.size w W → Calls Try.prog 12 #[.slice A n c, .string (S b), .int .u8 (i.toNat : Int)] W (NumTo (hsum (hk 0 key) (hk 1 key) (b ++ [i])) W)) := ⟨fun W hW => chance_any (HSP.out W hW) (fun g hg => Nat.lt_of_lt_of_le hg hW.size) b (by omega) i⟩
    have H4 : Bx (∀ W, Below w.heap.size w W → Calls Try.prog 13 #[.slice A n c, .string (S b), .int .u8 (i.toNat : Int)] W (NumTo (hsum (hk 0 key) (hk 1 key) (b ++ [i])) W)) := ⟨fun W hW => rchance_any (HSP.out W hW) (fun g hg => Nat.lt_of_lt_of_le hg hW.size) (by omega) b (by omega) i⟩
    unfold TellTo at H1
    unfold TellTo2 at H2
    unfold NumTo at H3 H4
    generalize scoK key b z = s at *
    obtain ⟨d, x⟩ := s
    generalize num (hsum (hk 0 key) (hk 1 key) (b ++ [i])) = y at *
    clear hs hb0 hr hg hb hn HSP
    go_enter Try.func3, Try.ntmps3
    go_wp2_with fail
    rw [← hw0]
    refine HG.out.mono ?_
    rintro e w1 ⟨rfl, rfl⟩
    clear hw0
    go_wp2_with fail
    refine (H1.out _ HB0.out).mono ?_
    rintro e w2 ⟨rfl, hb2⟩
    have HB2 := Bx.mk (HB0.out.trans (hb2.mono HB0.out.size))
    clear hb2
    go_wp2_with fail
    refine (H2.out _ HB2.out).mono ?_
    rintro e w3 ⟨rfl, hb3⟩
    have HB3 := Bx.mk (HB2.out.trans (hb3.mono HB2.out.size))
    clear hb3
    go_wp2_with fail
    refine (H3.out _ HB3.out).mono ?_
    rintro e w4 ⟨rfl, hb4⟩
    have HB4 := Bx.mk (HB3.out.trans (hb4.mono HB3.out.size))
    clear hb4
    go_wp2_with fail
    refine (H4.out _ HB4.out).mono ?_
    rintro e w5 ⟨rfl, hb5⟩
    have HB5 := Bx.mk (HB4.out.trans (hb5.mono HB4.out.size))
    clear hb5
    go_wp2_with fail
    go_ret
    exact ⟨rfl, HB5.out⟩
theorem scores_at {w : World} {A : Option Addr} {n c : Nat} {bs : List Int} (hs0 : Src w (fun g => g < w.heap.size) A n c bs) (s : ByteArray) {i : Int} (hi : 0 ≤ i ∧ i < 256) (z : Int) : Calls Try.prog 3 #[.slice A n c, .string s, .int .u8 i, .int .i64 z] w (True_ w) := by
  obtain ⟨key, rfl⟩ := ints_of hs0.rng
  have hz : i = ((UInt8.ofNat i.toNat).toNat : Int) := by simp; omega
  rw [hz, ← S_data s]
  exact scores_any hs0 _ _ z
end Go.Proofs.Ytimlcjdpnhhjdaa.rk
