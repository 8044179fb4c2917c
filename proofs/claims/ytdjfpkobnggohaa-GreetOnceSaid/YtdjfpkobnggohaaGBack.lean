/-
  Given for the seat's laws: GreetBack at any methods and any bytes behind. No condition.
-/
import Derived.Test.YtdjfpkobnggohaaGChoice
namespace Go.Proofs.Ytdjfpkobnggohaa.gr
open Go.RowKit mem
set_option linter.unusedVariables false

theorem tk_back (ms b : Str) (h1 : 0 < ms.length) (h2 : ms.length < 256) : tk ([5, UInt8.ofNat ms.length] ++ ms ++ b) = (ms, 2 + ms.length, 0) := by
  have e : (UInt8.ofNat ms.length).toNat = ms.length := by simp; omega
  have h := tk_whole (k := UInt8.ofNat ms.length) (ms := ms ++ b) (fun e' => by rw [e'] at e; simp at e; omega) (by rw [e]; simp)
  rw [e, List.take_left] at h
  exact h
theorem cast_u8 {n : Nat} (h : n < 256) : IntKind.u8.wrap (n : Int) = (n : Int) := by rw [IntKind.wrap_u8]; omega

set_option maxHeartbeats 4000000 in
set_option maxRecDepth 100000 in
theorem back_walk {w : World} {A B : Option Addr} {n c m d : Nat} {bs ds : List Int} (hs0 : Src w (fun g => g < w.heap.size) A n c bs) (hd0 : Src w (fun g => g < w.heap.size) B m d ds) : Calls Try.prog 6 #[.slice A n c, .slice B m d] w (True_ w) := by
  obtain ⟨ms, rfl⟩ := ints_of hs0.rng
  obtain ⟨b, rfl⟩ := ints_of hd0.rng
  have hs : Spell w (fun g => g < w.heap.size) A n c ms := hs0
  have hd : Spell w (fun g => g < w.heap.size) B m d b := hd0
  have hml := spell_len hs
  have hbl := spell_len hd
  have HAW := Lib.hid (awake_any w)
  have HS := Lib.hid hs
  have HD := Lib.hid hd
  have HML := Lib.hid hml
  have HBL := Lib.hid hbl
  clear hs hs0 hd hd0 hml hbl
  by_cases hq : n = 0 ∨ 255 < n ∨ 400 < m
  · rcases (show n = 0 ∨ (0 < n ∧ 255 < n) ∨ (0 < n ∧ n ≤ 255 ∧ 400 < m) by omega) with h0 | ⟨h0, h1⟩ | ⟨h0, h1, h2⟩
    · subst h0
      clear hq
      go_enter Try.func6, Try.ntmps6
      go_wp2_with fail
      refine HAW.out.mono ?_
      rintro e w1 ⟨rfl, hb1⟩
      have HB1 := Lib.hid hb1
      clear hb1
      go_wp2_with fail
      go_ret
      exact ⟨rfl, HB1.out⟩
    · have h0' : ((n : Int) == 0) = false := by simp; omega
      clear hq
      go_enter Try.func6, Try.ntmps6
      go_wp2_with fail
      refine HAW.out.mono ?_
      rintro e w1 ⟨rfl, hb1⟩
      have HB1 := Lib.hid hb1
      clear hb1
      go_wp2_with fail
      go_ret
      exact ⟨rfl, HB1.out⟩
    · have h0' : ((n : Int) == 0) = false := by simp; omega
      have h1' : ¬ 255 < n := by omega
      clear hq
      go_enter Try.func6, Try.ntmps6
      go_wp2_with fail
      refine HAW.out.mono ?_
      rintro e w1 ⟨rfl, hb1⟩
      have HB1 := Lib.hid hb1
      clear hb1
      go_wp2_with fail
      go_ret
      exact ⟨rfl, HB1.out⟩
  · have h0' : ((n : Int) == 0) = false := by simp; omega
    have h0 : 0 < n := by omega
    have h1' : ¬ 255 < n := by omega
    have h2' : ¬ 400 < m := by omega
    have hn256 : n < 256 := by omega
    have hwr := cast_u8 hn256
    have hself := (str_eq ms).1
    have hnn : (((n : Int) + 2) == ((n : Int) + 2)) = true := by simp
    clear hq
    go_enter Try.func6, Try.ntmps6
    go_wp2_with fail
    refine HAW.out.mono ?_
    rintro e w1 ⟨rfl, hb1⟩
    obtain ⟨A2, c2, w2, happ, hm2⟩ := app_lit (HS.out.below hb1 (fun g hg => hg)) (fun g hg => Nat.lt_of_lt_of_le hg hb1.size) [5, UInt8.ofNat n] 2 rfl (by omega)
    have h5 : (B8 (ints [5, UInt8.ofNat n])).toArray = #[.int .u8 5, .int .u8 (n : Int)] := by
      have : ((UInt8.ofNat n).toNat : Int) = (n : Int) := by simp; omega
      rw [← this]; rfl
    rw [h5] at happ
    have hm2' := hm2.since hb1
    have hs2 : Spell w2 (fun g => g < w2.heap.size) A2 (2 + n) c2 ([5, UInt8.ofNat n] ++ ms) := made_spell hm2' (by rw [List.length_append, HML.out]; rfl)
    obtain ⟨A3, c3, w3, happ3, hm3⟩ := mine hs2 (fun g hg => hg) (by omega)
    have hm3' := hm3.since hm2'.below
    obtain ⟨A4, c4, w4, happ4, hm4⟩ := app_made (n := 2 + n) hm3' (by rw [List.length_append, HML.out]; rfl) (HD.out.below hm3'.below (fun g hg => hg)) (by omega)
    have HT := Lib.hid (take_as (n := 2 + n + m) (made_spell hm4 (by rw [List.length_append, List.length_append, HML.out, HBL.out]; rfl)) (fun g hg => hg) (by have h := tk_back ms b (by rw [HML.out]; exact h0) (by rw [HML.out]; exact hn256); rw [HML.out] at h; exact h) HML.out)
    have HAp2 := Lib.hid happ
    have HAp3 := Lib.hid happ3
    have HAp4 := Lib.hid happ4
    have HB4 := Lib.hid hm4.below
    clear hb1 happ happ3 happ4 hm2 hm2' hs2 hm3 hm3' hm4 h5
    go_wp2_with (at_builtin; first
      | (refine wpList_append_eq rfl _ _ rfl rfl rfl rfl HAp2.out ?_; clear HAp2)
      | (refine wpList_append_eq rfl _ _ rfl rfl rfl rfl HAp3.out ?_; clear HAp3)
      | (refine wpList_append_eq rfl _ _ rfl rfl rfl rfl HAp4.out ?_; clear HAp4))
    go_wp2_with fail
    refine HT.out.mono ?_
    rintro e w5 ⟨A5, c5, rfl, hm5⟩
    have hm5' := hm5.since HB4.out
    have HM5 := Lib.hid hm5'
    clear hm5 hm5'
    go_wp2_with fail
    refine (greeting_any _).mono ?_
    rintro e w6 ⟨A6, c6, rfl, hm6⟩
    have hm56 := HM5.out.fresh hm6.below
    have HT6 := Lib.hid (take_as (made_spell hm6 rfl) (fun g hg => hg) (show tk [5, 1, 2] = ([2], 3, 0) by decide) (rfl : List.length [(2 : UInt8)] = 1))
    have HM6 := Lib.hid hm56
    clear hm6 hm56
    go_wp2_with fail
    refine HT6.out.mono ?_
    rintro e w7 ⟨A7, c7, rfl, hm7⟩
    have hm57 := HM6.out.fresh hm7.below
    have hc1 := spell_str (made_spell hm57 HML.out)
    have hc2 := spell_str (HS.out.below hm57.below (fun g hg => hg))
    have HH := Lib.hid (has_any (made_spell hm7 rfl))
    have hht : has [2] = true := by decide
    rw [hht] at HH
    have HB7 := Lib.hid hm57.below
    clear hm7 hm57 hht
    go_wp2_with fail
    refine HH.out.mono ?_
    rintro e w8 ⟨rfl, rfl⟩
    go_wp2_with fail
    go_ret
    exact ⟨rfl, HB7.out⟩
end Go.Proofs.Ytdjfpkobnggohaa.gr
