/-
  Given for the seat's laws: GreetChoice at both answers, any method and any bytes behind. No condition.
-/
import Derived.Test.YtdjfpkobnggohaaGAwake
namespace Go.Proofs.Ytdjfpkobnggohaa.gr
open Go.RowKit mem
set_option linter.unusedVariables false

theorem byte_of_int {m : Int} (h : 0 ≤ m ∧ m < 256) : ∃ x : UInt8, m = (x.toNat : Int) := ⟨UInt8.ofNat m.toNat, by simp; omega⟩
theorem lit_made (w : World) (l : Str) (n : Nat) (hn : l.length = n) (hl : n ≤ 1000) : Made w (w.alloc (.cells (B8 (ints l)).toArray 5)) (.slice (some ⟨w.heap.size, 0, none⟩) n n) l := by
  subst hn
  exact made_lit w l hl
theorem app_lit {w : World} {ok : Nat → Prop} {A : Option Addr} {m c : Nat} {ys : Str} (hs : Spell w ok A m c ys) (hok : ∀ g, ok g → g < w.heap.size) (l : Str) (n : Nat) (hn : l.length = n) (hl : n + m ≤ 1000) :
    ∃ A2 c2 w2, (Builtin.append_ #[22, 22] 22 #[.slice (some ⟨w.heap.size, 0, none⟩) n n, .slice A m c]).run Try.prog (w.alloc (.cells (B8 (ints l)).toArray 5)) = .ok (.slice A2 (n + m) c2) w2 ∧ Made w w2 (.slice A2 (n + m) c2) (l ++ ys) := by
  have h := (lit_made w l n hn (by omega)).app (Below.refl _ _) (hs.below (lit_below w _) hok) (by omega)
  rw [hn] at h
  exact h
theorem app_made {w wr : World} {ok : Nat → Prop} {v : Value} {l ys : Str} {A : Option Addr} {n m c : Nat} (h : Made w wr v l) (hn : l.length = n) (hs : Spell wr ok A m c ys) (hl : n + m ≤ 1000) :
    ∃ A2 c2 w2, (Builtin.append_ #[22, 22] 22 #[v, .slice A m c]).run Try.prog wr = .ok (.slice A2 (n + m) c2) w2 ∧ Made w w2 (.slice A2 (n + m) c2) (l ++ ys) := by
  have h := h.app (Below.refl _ _) hs (by omega)
  rw [hn] at h
  exact h

set_option maxHeartbeats 4000000 in
set_option maxRecDepth 100000 in
theorem choice_walk (ok : Bool) {m : Int} (hm : 0 ≤ m ∧ m < 256) {w : World} {A : Option Addr} {n c : Nat} {bs : List Int} (hs0 : Src w (fun g => g < w.heap.size) A n c bs) : Calls Try.prog 7 #[.bool ok, .int .u8 m, .slice A n c] w (True_ w) := by
  obtain ⟨b, rfl⟩ := ints_of hs0.rng
  obtain ⟨x, rfl⟩ := byte_of_int hm
  have hs : Spell w (fun g => g < w.heap.size) A n c b := hs0
  have HAW := Lib.hid (awake_any w)
  have HS := Lib.hid hs
  clear hs hs0 hm
  by_cases h3 : 400 < n
  · go_enter Try.func7, Try.ntmps7
    go_wp2_with fail
    refine HAW.out.mono ?_
    rintro e w1 ⟨rfl, hb1⟩
    have HB1 := Lib.hid hb1
    clear hb1
    go_wp2_with fail
    go_ret
    exact ⟨rfl, HB1.out⟩
  · obtain ⟨y, hy, hy2, hch⟩ : ∃ y : Nat, ((y : Int) == 2) = ok ∧ ((y : Int) == 255) = !ok ∧ ch (ans ok ++ b) = (y, 2, 0) := by
      cases ok
      · exact ⟨255, rfl, rfl, rfl⟩
      · exact ⟨2, rfl, rfl, rfl⟩
    have hal : (ans ok).length = 2 := by cases ok <;> rfl
    have HCH := Lib.hid hch
    have HAL := Lib.hid hal
    have hch2 : ch ([5, x] ++ b) = (x.toNat, 2, 0) := rfl
    have HCH2 := Lib.hid hch2
    have hoo : (ok == ok) = true := by cases ok <;> rfl
    have hno : ((!ok) == (!ok)) = true := by cases ok <;> rfl
    have HY := Lib.hid hy
    have HY2 := Lib.hid hy2
    clear hch hch2 hal hy hy2
    generalize hx : (x.toNat : Int) = z
    have HX := Lib.hid hx
    clear hx
    go_enter Try.func7, Try.ntmps7
    go_wp2_with fail
    refine HAW.out.mono ?_
    rintro e w1 ⟨rfl, hb1⟩
    have HB1 := Lib.hid hb1
    clear hb1
    go_wp2_with fail
    refine (answer_any ok _).mono ?_
    rintro e w2 ⟨A2, c2, rfl, hm2⟩
    rw [HAL.out] at hm2 ⊢
    have hb2 := HB1.out.trans (hm2.below.mono HB1.out.size)
    obtain ⟨A3, c3, w3, happ, hm3⟩ := app_made hm2 HAL.out (HS.out.below hb2 (fun g hg => hg)) (by omega)
    have HAp := Lib.hid happ
    have hm3' := hm3.since HB1.out
    have HA3 := Lib.hid (ans_as (made_spell hm3' (by rw [List.length_append, HAL.out, spell_len HS.out])) HCH.out)
    have HB3 := Lib.hid hm3'.below
    clear hb2 happ hm3 hm2 hm3'
    go_wp2_with (at_builtin; refine wpList_append_eq rfl _ _ rfl rfl rfl rfl HAp.out ?_)
    go_wp2_with fail
    refine HA3.out.mono ?_
    rintro e w4 ⟨rfl, rfl⟩
    obtain ⟨A5, c5, w5, happ, hm5⟩ := app_lit (HS.out.below HB3.out (fun g hg => hg)) (fun g hg => Nat.lt_of_lt_of_le hg HB3.out.size) [5, x] 2 rfl (by omega)
    have h5 : (B8 (ints [5, x])).toArray = #[.int .u8 5, .int .u8 z] := by rw [← HX.out]; rfl
    rw [h5] at happ
    have hm5' := hm5.since HB3.out
    have HA5 := Lib.hid (ans_as (made_spell hm5' (by rw [List.length_append, spell_len HS.out]; rfl)) HCH2.out)
    rw [HX.out] at HA5
    have HAp5 := Lib.hid happ
    have HB5 := Lib.hid hm5'.below
    clear happ hm5 hm5' h5
    go_wp2_with (at_builtin; refine wpList_append_eq rfl _ _ rfl rfl rfl rfl HAp5.out ?_)
    go_wp2_with fail
    refine HA5.out.mono ?_
    rintro e w6 ⟨rfl, rfl⟩
    have hy := HY.out
    have hy2 := HY2.out
    go_wp2_with fail
    go_ret
    exact ⟨rfl, HB5.out⟩
end Go.Proofs.Ytdjfpkobnggohaa.gr
