/-
  Given for the seat's laws: HeadTakes at any bytes. No condition but those of the theorem.
-/
import Derived.Test.YtkclhfoeimbikaaDoorKRTake
import Derived.Test.YtkclhfoeimbikaaDoorKRef4
namespace Go.Proofs.YtkclhfoeimbikaaDoor.hd
open Go.RowKit mem
set_option linter.unusedVariables false

theorem tfat_alloc {W : World} {o : Obj} {A : Option Addr} {n c : Nat} {fs : Flds} (h : FAt W (fun g => g < W.heap.size) A n c fs) : FAt (W.alloc o) (fun g => g < (W.alloc o).heap.size) A n c fs :=
  (h.below ((Below.refl _ _).alloc (Nat.le_refl _) o) (fun g hg => hg)).weak fun g hg => by simp; omega
theorem tfat_next {W W' : World} {A : Option Addr} {n c : Nat} {fs : Flds} (h : FAt W (fun g => g < W.heap.size) A n c fs) (hb : Below W.heap.size W W') : FAt W' (fun g => g < W'.heap.size) A n c fs :=
  (h.below hb (fun g hg => hg)).weak fun g hg => Nat.lt_of_lt_of_le hg hb.size
theorem tsp_next {W W' : World} {A : Option Addr} {n c : Nat} {b : Str} (h : Spell W (fun g => g < W.heap.size) A n c b) (hb : Below W.heap.size W W') : Spell W' (fun g => g < W'.heap.size) A n c b :=
  (h.below hb (fun g hg => hg)).weak fun g hg => Nat.lt_of_lt_of_le hg hb.size
set_option maxHeartbeats 4000000 in
set_option maxRecDepth 100000 in
theorem takes_walk {w : World} {A : Option Addr} {n c : Nat} {bs : List Int} (hs : Src w (fun g => g < w.heap.size) A n c bs) : Calls Tryd.prog 3 #[.slice A n c] w (True_ w) := by
  obtain ⟨b, rfl⟩ := ints_of hs.rng
  by_cases hbig : 1500 < n
  · have i0 : (1500 : Int) < (n : Int) := by omega
    clear hs hbig
    go_enter Tryd.func3, Tryd.ntmps3
    go_wp2_with fail
    exact bodyPost_ret (v := .bool true) (by simp [results, Tryd.results3, go_sem]) rfl ⟨rfl, Below.refl _ _⟩
  · have i0 : ¬ (1500 : Int) < (n : Int) := by omega
    have hn5 : n ≤ 1500 := by omega
    have hbl := spell_len hs
    obtain ⟨A2, c2, w2, happ, hm⟩ := mine hs (fun g hg => hg) (by omega)
    obtain ⟨l1, fs1, n1, e1, hx⟩ : ∃ l fs n e, take b = (l, fs, n, e) := ⟨_, _, _, _, rfl⟩
    have HX := Bx.mk hx
    have HAP := Bx.mk happ
    have HTk := Bx.mk (take_any0 (made_spell hm hbl) (fun g hg => hg))
    have HMS := Bx.mk (made_spell hm hbl)
    have HST : Bx (Std w w2 A n c b) := ⟨⟨hm.below, Src.below hs hm.below (fun g hg => hg)⟩⟩
    clear hs hbl happ hm hx hbig
    go_enter Tryd.func3, Tryd.ntmps3
    go_wp2_with (at_builtin; refine wpList_append_eq rfl _ _ rfl rfl rfl rfl HAP.out ?_)
    refine HTk.out.mono ?_
    intro en w3 ht
    obtain ⟨A3, c3, rfl, hf3, hb3⟩ := take_r HX.out ht
    obtain ⟨k, hk⟩ : ∃ k, fs1.length = k := ⟨_, rfl⟩
    rw [hk] at hf3 ⊢
    have hb3a := hb3.alloc hb3.size (.cells #[.string (S l1), .slice A3 k c3] 25)
    have HL3 := Bx.mk (Lies.new w3 25 #[.string (S l1), .slice A3 k c3])
    have HF3 := Bx.mk (tfat_alloc (o := (.cells #[.string (S l1), .slice A3 k c3] 25)) hf3)
    have HMS3 := Bx.mk (tsp_next HMS.out hb3a)
    have HST3 := Bx.mk (HST.out.next hb3a)
    have hk16 : k ≤ 16 := by rw [← hk]; exact take_most HX.out
    have HK := Bx.mk hk
    clear ht hf3 hb3 hb3a hk HTk HAP HMS HST
    go_upto_region 5 with fail
    generalize w3.alloc (.cells #[.string (S l1), .slice A3 k c3] 25) = W3 at *
    generalize w3.heap.size = g3 at *
    go_wp2_with fail
    refine (rtake_any HST3.out.sp (fun g hg => Nat.lt_of_lt_of_le hg HST3.out.be.size) (by omega)).mono ?_
    intro en w5 ht
    obtain ⟨A5, c5, rfl, hf5, hb5⟩ := take_r HX.out ht
    rw [HK.out] at hf5 ⊢
    have hb5a := hb5.alloc hb5.size (.cells #[.string (S l1), .slice A5 k c5] 25)
    have HL5 := Bx.mk (Lies.new w5 25 #[.string (S l1), .slice A5 k c5])
    have HL4 := Bx.mk (HL3.out.below hb5a HL3.out.lt)
    have HF5 := Bx.mk (tfat_alloc (o := (.cells #[.string (S l1), .slice A5 k c5] 25)) hf5)
    have HF4 := Bx.mk (tfat_next HF3.out hb5a)
    have HMS5 := Bx.mk (tsp_next HMS3.out hb5a)
    have HST5 := Bx.mk (HST3.out.next hb5a)
    clear ht hf5 hb5 hb5a HL3 HF3 HMS3 HST3
    go_upto_region 6 with fail
    generalize w5.alloc (.cells #[.string (S l1), .slice A5 k c5] 25) = W5 at *
    generalize w5.heap.size = g5 at *
    have x0 := HL4.out.cell 0; have x1 := HL4.out.cell 1
    have y0 := HL5.out.cell 0; have y1 := HL5.out.cell 1
    simp at x0 x1 y0 y1
    have hS := RSame_any (w := W5) (la := l1) (lb := l1) HF4.out (fun g hg => hg) HF5.out (fun g hg => hg) (by omega)
    rw [decide_eq_true (⟨rfl, rfl⟩ : l1 = l1 ∧ fs1 = fs1)] at hS
    have HSa := Bx.mk hS
    have r1 : ((n1 : Int) == (n1 : Int)) = true := by simp
    have r2 : ((e1 : Int) == (e1 : Int)) = true := by simp
    have r3 : ((S b).toList == (S b).toList) = true := by simp
    clear hS
    go_wp2_with fail
    refine HSa.out.mono ?_
    rintro e w7 ⟨rfl, hb7⟩
    have hcv1 : (convert 22 9 (.slice A2 n c2)).run Tryd.prog w7 = .ok (.string (S b)) w7 := spell_str (tsp_next HMS5.out hb7)
    have hcv2 : (convert 22 9 (.slice A n c)).run Tryd.prog w7 = .ok (.string (S b)) w7 := spell_str (HST5.out.next hb7).sp
    have HE := Bx.mk (HST5.out.next hb7).be
    clear hb7 x0 x1 y0 y1 HSa HST5 HMS5
    go_wp2_with fail
    exact bodyPost_ret (v := .bool true) (by simp [results, Tryd.results3, go_sem]) rfl ⟨rfl, HE.out⟩
end Go.Proofs.YtkclhfoeimbikaaDoor.hd
