/-
  Given for the seat's laws: the contracts of Print and Answer, and of the document's own. No condition but those of the theorems.
-/
import Derived.Test.YtnkfmbdaicpahaaGRef
import Derived.Test.YtnkfmbdaicpahaaGConc
namespace Go.Proofs.Ytnkfmbdaicpahaa.gr
open Go.RowKit mem
set_option linter.unusedVariables false

def L (s : ByteArray) : Str := s.data.toList
theorem L_len (s : ByteArray) : (L s).length = s.size := list_len s
def fit (s : ByteArray) : Bool := decide (1 ≤ s.size) && decide (s.size ≤ 255)
theorem fit_t {s : ByteArray} : fit s = true ↔ ok1 (L s) := by unfold fit ok1; rw [L_len]; simp
theorem fits_any (s : ByteArray) (w : World) : Calls Try.prog 18 #[.string s] w fun e w' => e = .returned (.bool (fit s)) ∧ w' = w := by
  unfold fit
  by_cases h1 : 1 ≤ s.size
  · by_cases h2 : s.size ≤ 255
    · have h1' : (1 : Int) ≤ (s.size : Int) := by omega
      have h2' : (s.size : Int) ≤ 255 := by omega
      go_enter Try.func18, Try.ntmps18
      go_wp2
      go_ret
      exact ⟨by simp [h1, h2], rfl⟩
    · have h1' : (1 : Int) ≤ (s.size : Int) := by omega
      have h2' : ¬ (s.size : Int) ≤ 255 := by omega
      go_enter Try.func18, Try.ntmps18
      go_wp2
      go_ret
      exact ⟨by simp <;> omega, rfl⟩
  · have h1' : ¬ (1 : Int) ≤ (s.size : Int) := by omega
    go_enter Try.func18, Try.ntmps18
    go_wp2
    go_ret
    exact ⟨by simp <;> omega, rfl⟩

/-- what Print gives: bytes of the call's own, so many, and the number of the error -/
def PrintAs (l : Str) (k q : Nat) (w : World) (e : Ending) (w' : World) : Prop := ∃ A c, e = .returned (.tuple #[.slice A k c, .int .i64 (q : Int)]) ∧ Made w w' (.slice A k c) l
theorem print_no (w : World) : PrintAs [] 0 2 w (.returned (.tuple #[.slice none 0 0, .int .i64 2])) w := ⟨none, 0, rfl, made_nil w⟩
set_option maxHeartbeats 1000000 in
set_option maxRecDepth 100000 in
theorem print_bad {s t : ByteArray} (h : fit s = false ∨ fit t = false) (w : World) : Calls Try.prog 12 #[.string s, .string t] w (PrintAs [] 0 2 w) := by
  have HF := Bx.mk (fun s => fits_any s)
  have HB := Bx.mk (failB_any)
  by_cases h1 : fit s = false
  · go_enter Try.func12, Try.ntmps12
    go_wp2_with fail
    refine (HF.out _ _).mono ?_
    rintro e w2 ⟨rfl, rfl⟩
    rw [h1]
    go_wp2_with fail
    refine (HB.out _ _).mono ?_
    rintro e w3 ⟨rfl, rfl⟩
    go_wp2_with fail
    exact bodyPost_ret (v := .tuple #[.slice none 0 0, .int .i64 2]) (by simp [results, Try.results12, go_sem]) rfl (print_no _)
  · have h1 : fit s = true := by simpa using h1
    have h2 : fit t = false := by simpa [h1] using h
    go_enter Try.func12, Try.ntmps12
    go_wp2_with fail
    refine (HF.out _ _).mono ?_
    rintro e w2 ⟨rfl, rfl⟩
    rw [h1]
    go_wp2_with fail
    refine (HF.out _ _).mono ?_
    rintro e w3 ⟨rfl, rfl⟩
    rw [h2]
    go_wp2_with fail
    refine (HB.out _ _).mono ?_
    rintro e w3 ⟨rfl, rfl⟩
    go_wp2_with fail
    exact bodyPost_ret (v := .tuple #[.slice none 0 0, .int .i64 2]) (by simp [results, Try.results12, go_sem]) rfl (print_no _)
theorem wrap_small {k : Nat} (h : k ≤ 255) : IntKind.u8.wrap (k : Int) = (k : Int) := by rw [IntKind.wrap_u8]; omega
theorem Made.since {w0 w w' : World} {v : Value} {l : Str} (h : Made w w' v l) (hb : Below w0.heap.size w0 w) : Made w0 w' v l := by
  refine ⟨⟨h.own.1, ?_⟩, hb.trans (h.below.mono hb.size)⟩
  rcases h.own.2 with h0 | ⟨g, cap, cur, hv, hg, rest⟩
  · exact .inl h0
  · exact .inr ⟨g, cap, cur, hv, Nat.le_trans hb.size hg, rest⟩
theorem ln_cell {s : ByteArray} (h : fit s = true) : ((ln (L s)).toNat : Int) = (s.size : Int) := by rw [ln_nat (fit_t.1 h), L_len]
def tf (u p : Str) : Nat → Str
  | 0 => [1, ln u]
  | 1 => u
  | 2 => [ln p]
  | _ => p
theorem cat_tf (u p : Str) : cat (tf u p) 4 = pr u p := by simp [cat, tf, pr]
theorem concat_print {s t : ByteArray} (h1 : fit s = true) (h2 : fit t = true) {w w1 w2 w3 w4 w5 : World} (e1 : w1 = w.alloc (.cells #[.int .u8 1, .int .u8 (s.size : Int)] 5)) (e2 : w2 = Lib.bytesWorld w1 5 s)
    (e3 : w3 = w2.alloc (.cells #[.int .u8 (t.size : Int)] 5)) (e4 : w4 = Lib.bytesWorld w3 5 t) {X : Array Value}
    (eX : X = #[.slice (some ⟨w.heap.size, 0, none⟩) 2 2, .slice (some ⟨w.heap.size + 1, 0, none⟩) s.size (grownCap w1 s.size 0 5), .slice (some ⟨w2.heap.size, 0, none⟩) 1 1, .slice (some ⟨w2.heap.size + 1, 0, none⟩) t.size (grownCap w3 t.size 0 5)])
    (e5 : w5 = w4.alloc (.cells X 22)) :
    Calls Try.prog 20 #[.slice (some ⟨w4.heap.size, 0, none⟩) 4 4] w5 fun e w' => ∃ A' c', e = .returned (.slice A' (3 + s.size + t.size) c') ∧ Made w w' (.slice A' (3 + s.size + t.size : Nat) c') (pr (L s) (L t)) := by
  have o1 := fit_t.1 h1
  have o2 := fit_t.1 h2
  have hk : (cat (tf (L s) (L t)) 4).length = 3 + s.size + t.size := by rw [cat_tf, pr_len, L_len, L_len]
  have c1 := ln_cell h1
  have c2 := ln_cell h2
  have k1 : s.size ≤ 255 := by have := o1.2; rw [L_len] at this; exact this
  have k2 : t.size ≤ 255 := by have := o2.2; rw [L_len] at this; exact this
  have b1 : Below w.heap.size w w1 := by subst e1; exact (Below.refl _ _).alloc (Nat.le_refl _) _
  have b2 : Below w1.heap.size w1 w2 := by subst e2; exact conv_below s w1
  have b3 : Below w2.heap.size w2 w3 := by subst e3; exact (Below.refl _ _).alloc (Nat.le_refl _) _
  have b4 : Below w3.heap.size w3 w4 := by subst e4; exact conv_below t w3
  have b5 : Below w4.heap.size w4 w5 := by subst e5; exact (Below.refl _ _).alloc (Nat.le_refl _) _
  have z1 : w1.heap.size = w.heap.size + 1 := by subst e1; simp
  have z2 : w2.heap.size = w1.heap.size + 1 := by subst e2; exact Lib.bytesWorld_size _ _ _
  have z3 : w3.heap.size = w2.heap.size + 1 := by subst e3; simp
  have z4 : w4.heap.size = w3.heap.size + 1 := by subst e4; exact Lib.bytesWorld_size _ _ _
  have z5 : w5.heap.size = w4.heap.size + 1 := by subst e5; simp
  have s0 : Spell w1 (fun g => g = w.heap.size) (some ⟨w.heap.size, 0, none⟩) 2 2 [1, ln (L s)] := by
    have h := src_lit w (ints [1, ln (L s)]) (0, 0) (ints_rng _) (by simp [ints])
    have e : B8 (ints [1, ln (L s)]) = [.int .u8 1, .int .u8 (s.size : Int)] := by
      show [Value.int .u8 _, Value.int .u8 ((ln (L s)).toNat : Int)] = _
      rw [c1]; rfl
    rw [e] at h
    subst e1
    exact h
  have s1 : Spell w2 (fun g => g = w1.heap.size) (some ⟨w1.heap.size, 0, none⟩) s.size (grownCap w1 s.size 0 5) (L s) := by subst e2; exact conv_spell s w1 (by omega)
  have s2 : Spell w3 (fun g => g = w2.heap.size) (some ⟨w2.heap.size, 0, none⟩) 1 1 [ln (L t)] := by
    have h := src_lit w2 (ints [ln (L t)]) (0, 0) (ints_rng _) (by simp [ints])
    have e : B8 (ints [ln (L t)]) = [.int .u8 (t.size : Int)] := by
      show [Value.int .u8 ((ln (L t)).toNat : Int)] = _
      rw [c2]
    rw [e] at h
    subst e3
    exact h
  have s3 : Spell w4 (fun g => g = w3.heap.size) (some ⟨w3.heap.size, 0, none⟩) t.size (grownCap w3 t.size 0 5) (L t) := by subst e4; exact conv_spell t w3 (by omega)
  have t3 := (s3.below b5 (fun g hg => by omega)).weak (ok' := fun g => g < w5.heap.size) (fun g hg => by omega)
  have t2 := ((s2.below b4 (fun g hg => by omega)).below b5 (fun g hg => by omega)).weak (ok' := fun g => g < w5.heap.size) (fun g hg => by omega)
  have t1 := (((s1.below b3 (fun g hg => by omega)).below b4 (fun g hg => by omega)).below b5 (fun g hg => by omega)).weak (ok' := fun g => g < w5.heap.size) (fun g hg => by omega)
  have t0 := ((((s0.below b2 (fun g hg => by omega)).below b3 (fun g hg => by omega)).below b4 (fun g hg => by omega)).below b5 (fun g hg => by omega)).weak (ok' := fun g => g < w5.heap.size) (fun g hg => by omega)
  have hcell : ∀ j : Nat, w5.cell? ⟨w4.heap.size, j, none⟩ = X[j]? := fun j => by subst e5; exact lit_cell _ _ _ _ _
  have hall : Below w.heap.size w w5 := (((b1.trans (b2.mono (by omega))).trans (b3.mono (by omega))).trans (b4.mono (by omega))).trans (b5.mono (by omega))
  have key := concat_any (w := w5) (h := w4.heap.size) (m := 4) (cap := 4) (ok := fun g => g < w5.heap.size) (T := tf (L s) (L t))
    (A := fun j => match j with | 0 => some ⟨w.heap.size, 0, none⟩ | 1 => some ⟨w1.heap.size, 0, none⟩ | 2 => some ⟨w2.heap.size, 0, none⟩ | _ => some ⟨w3.heap.size, 0, none⟩)
    (c := fun j => match j with | 0 => 2 | 1 => grownCap w1 s.size 0 5 | 2 => 1 | _ => grownCap w3 t.size 0 5)
    (fun j hj => by
      rw [hcell j, eX]
      match j, hj with
      | 0, _ => exact ⟨rfl, t0⟩
      | 1, _ => rw [show (tf (L s) (L t) 1).length = s.size from L_len s]; exact ⟨by rw [z1]; rfl, t1⟩
      | 2, _ => exact ⟨rfl, t2⟩
      | 3, _ => rw [show (tf (L s) (L t) 3).length = t.size from L_len t]; exact ⟨by rw [z3]; rfl, t3⟩)
    (fun g hg => hg) (by omega) (by omega) (by rw [hk]; omega) (by rw [hk]; omega)
  rw [hk, cat_tf] at key
  exact key.mono fun e w' ⟨A', c', he, hm⟩ => ⟨A', c', he, hm.since hall⟩
set_option maxHeartbeats 4000000 in
set_option maxRecDepth 100000 in
theorem print_good {s t : ByteArray} (h1 : fit s = true) (h2 : fit t = true) (w : World) : Calls Try.prog 12 #[.string s, .string t] w (PrintAs (pr (L s) (L t)) (3 + s.size + t.size) 0 w) := by
  have HF := Bx.mk (fun s => fits_any s)
  have HC := Bx.mk (@concat_print s t h1 h2)
  have hv := conv_any
  have o1 := fit_t.1 h1
  have o2 := fit_t.1 h2
  unfold ok1 at o1 o2
  rw [L_len] at o1 o2
  have e1 := wrap_small o1.2
  have e2 := wrap_small o2.2
  have O1 := Bx.mk o1
  have O2 := Bx.mk o2
  clear o1 o2
  go_enter Try.func12, Try.ntmps12
  go_wp2_with fail
  refine (HF.out _ _).mono ?_
  rintro e w2 ⟨rfl, rfl⟩
  rw [h1]
  go_wp2_with fail
  refine (HF.out _ _).mono ?_
  rintro e w3 ⟨rfl, rfl⟩
  rw [h2]
  go_wp2_with fail
  refine (HC.out rfl rfl rfl rfl rfl rfl).mono ?_
  rintro e w4 ⟨A4, c4, rfl, hm⟩
  have HM := Bx.mk hm
  clear hm HC hv
  go_wp2_with fail
  exact bodyPost_ret (v := .tuple #[.slice A4 (3 + s.size + t.size) c4, .int .i64 0]) (by simp [results, Try.results12, go_sem]) rfl ⟨A4, c4, rfl, HM.out⟩
theorem ans_is (w : World) (x y : UInt8) : Made w (w.alloc (.cells #[.int .u8 (x.toNat : Int), .int .u8 (y.toNat : Int)] 5)) (.slice (some ⟨w.heap.size, 0, none⟩) (2 : Nat) 2) [x, y] :=
  ⟨⟨rfl, .inr ⟨w.heap.size, 2, _, rfl, Nat.le_refl _, heap_alloc_new w _, Nat.le_refl _, by unfold maxLen; omega, rfl, rfl⟩⟩, (Below.refl _ _).alloc (Nat.le_refl _) _⟩
def yn (b : Bool) : Str := [1, if b then 0 else 1]
def AnswerAs (b : Bool) (w : World) (e : Ending) (w' : World) : Prop := ∃ A c, e = .returned (.slice A 2 c) ∧ Made w w' (.slice A (2 : Nat) c) (yn b)
theorem answer_any (b : Bool) (w : World) : Calls Try.prog 13 #[.bool b] w (AnswerAs b w) := by
  have H0 := Bx.mk (ans_is w 1 0)
  have H1 := Bx.mk (ans_is w 1 1)
  cases b with
  | true =>
    go_enter Try.func13, Try.ntmps13
    go_wp2
    go_ret
    exact ⟨_, _, rfl, H0.out⟩
  | false =>
    go_enter Try.func13, Try.ntmps13
    go_wp2
    go_ret
    exact ⟨_, _, rfl, H1.out⟩
theorem ranswer_any (b : Bool) (w : World) : Calls Try.prog 14 #[.bool b] w (AnswerAs b w) := by
  have H0 := Bx.mk (ans_is w 1 0)
  have H1 := Bx.mk (ans_is w 1 1)
  cases b with
  | true =>
    go_enter Try.func14, Try.ntmps14
    go_wp2
    go_ret
    exact ⟨_, _, rfl, H0.out⟩
  | false =>
    go_enter Try.func14, Try.ntmps14
    go_wp2
    go_ret
    exact ⟨_, _, rfl, H1.out⟩
end Go.Proofs.Ytnkfmbdaicpahaa.gr
