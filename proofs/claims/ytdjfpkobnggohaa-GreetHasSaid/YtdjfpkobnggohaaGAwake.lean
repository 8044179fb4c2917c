/-
  Given for the seat's laws: the chapter's examples. No condition but those of the theorems.
-/
import Derived.Test.YtdjfpkobnggohaaGTakes
namespace Go.Proofs.Ytdjfpkobnggohaa.gr
open Go.RowKit mem
set_option linter.unusedVariables false

theorem Made.since {w0 w w' : World} {v : Value} {l : Str} (h : Made w w' v l) (hb : Below w0.heap.size w0 w) : Made w0 w' v l := by
  refine ⟨⟨h.own.1, ?_⟩, hb.trans (h.below.mono hb.size)⟩
  rcases h.own.2 with h0 | ⟨g, cap, cur, hv, hg, rest⟩
  · exact .inl h0
  · exact .inr ⟨g, cap, cur, hv, Nat.le_trans hb.size hg, rest⟩
theorem lit_spell (w : World) (b : Str) (n : Nat) (fz : Nat × Nat) (hn : b.length = n) (hl : n ≤ 100) :
    Spell (w.alloc (.cells (B8 (ints b)).toArray 5 fz)) (fun g => g < (w.alloc (.cells (B8 (ints b)).toArray 5 fz)).heap.size) (some ⟨w.heap.size, 0, none⟩) n n b := by
  subst hn
  have h1 := src_lit w (ints b) fz (ints_rng b) (by rw [ints_len]; omega)
  rw [ints_len] at h1
  exact h1.weak fun g hg => by subst hg; simp
theorem lit_below (w : World) (o : Obj) : Below w.heap.size w (w.alloc o) := (Below.refl _ _).alloc (Nat.le_refl _) _
theorem TakeAs.since {l : Str} {k p q : Nat} {w0 w w' : World} {e : Ending} (h : TakeAs l k p q w e w') (hb : Below w0.heap.size w0 w) : TakeAs l k p q w0 e w' := by
  obtain ⟨A, c, he, hm⟩ := h
  exact ⟨A, c, he, hm.since hb⟩
theorem take_lit (w : World) (b : Str) (n : Nat) (fz : Nat × Nat) {l : Str} {k p q : Nat} (hn : b.length = n) (hl : n ≤ 100) (h : tk b = (l, p, q)) (hk : l.length = k) :
    Calls Try.prog 8 #[.slice (some ⟨w.heap.size, 0, none⟩) n n] (w.alloc (.cells (B8 (ints b)).toArray 5 fz)) (TakeAs l k p q w) :=
  (take_as (lit_spell w b n fz hn hl) (fun g hg => hg) h hk).mono fun e w' h => h.since (lit_below w _)
theorem ans_lit (w : World) (b : Str) (n : Nat) (fz : Nat × Nat) {m p q : Nat} (hn : b.length = n) (hl : n ≤ 100) (h : ch b = (m, p, q)) :
    Calls Try.prog 10 #[.slice (some ⟨w.heap.size, 0, none⟩) n n] (w.alloc (.cells (B8 (ints b)).toArray 5 fz)) fun e w' => e = .returned (.tuple #[.int .u8 (m : Int), .int .i64 (p : Int), .int .i64 (q : Int)]) ∧ Below w.heap.size w w' :=
  (ans_as (lit_spell w b n fz hn hl) h).mono fun e w' ⟨he, hw⟩ => ⟨he, by rw [hw]; exact lit_below w _⟩

set_option maxHeartbeats 2000000 in
set_option maxRecDepth 100000 in
theorem told_any {w : World} {ok : Nat → Prop} {A : Option Addr} {n c : Nat} {b : Str} {q : Nat} (hs : Spell w ok A n c b) (hok : ∀ g, ok g → g < w.heap.size) (h : tk b = ([], 0, q)) : Calls Try.prog 20 #[.int .i64 (q : Int), .slice A n c] w (True_ w) := by
  have HT := Lib.hid (take_as hs hok h rfl)
  clear hs hok h
  go_enter Try.func20, Try.ntmps20
  go_wp2_with fail
  refine HT.out.mono ?_
  rintro e w3 ⟨A3, c3, rfl, hm3⟩
  have HB := Lib.hid hm3.below
  clear hm3
  simp only [List.length_nil]
  go_wp2_with fail
  go_ret
  exact ⟨rfl, HB.out⟩
theorem told_lit (w : World) (b : Str) (n : Nat) (fz : Nat × Nat) {q : Nat} (hn : b.length = n) (hl : n ≤ 100) (h : tk b = ([], 0, q)) :
    Calls Try.prog 20 #[.int .i64 (q : Int), .slice (some ⟨w.heap.size, 0, none⟩) n n] (w.alloc (.cells (B8 (ints b)).toArray 5 fz)) (True_ w) :=
  (told_any (lit_spell w b n fz hn hl) (fun g hg => hg) h).mono fun e w' ⟨he, hb⟩ => ⟨he, (lit_below w _).trans (hb.mono (by simp))⟩
theorem told_none (w : World) : Calls Try.prog 20 #[.int .i64 ((5 : Nat) : Int), .slice none 0 0] w (True_ w) := told_any (b := []) (Src.nil w (fun _ => False)) (fun g hg => hg.elim) rfl

set_option maxHeartbeats 4000000 in
set_option maxRecDepth 100000 in
theorem awake_any (w : World) : Calls Try.prog 17 #[] w (True_ w) := by
  go_enter Try.func17, Try.ntmps17
  go_wp2_with fail
  refine (take_lit _ [5, 2, 0, 2, 9] 5 _ rfl (by omega) (l := [0, 2]) (k := 2) (p := 4) (q := 0) (by decide) rfl).mono ?_
  rintro e w1 ⟨A1, c1, rfl, hm1⟩
  have HM1 := Lib.hid hm1
  clear hm1
  go_wp2_with fail
  refine (ans_lit _ [5, 255, 7] 3 _ rfl (by omega) (m := 255) (p := 2) (q := 0) (by decide)).mono ?_
  rintro e w2 ⟨rfl, hb2⟩
  have HM2 := Lib.hid (HM1.out.fresh hb2)
  clear hb2 HM1
  go_wp2_with fail
  refine (ans_lit _ [5] 1 _ rfl (by omega) (m := 0) (p := 0) (q := 5) (by decide)).mono ?_
  rintro e w3 ⟨rfl, hb3⟩
  have HM3 := Lib.hid (HM2.out.fresh hb3)
  clear hb3 HM2
  go_wp2_with fail
  refine (ans_lit _ [0] 1 _ rfl (by omega) (m := 0) (p := 0) (q := 6) (by decide)).mono ?_
  rintro e w4 ⟨rfl, hb4⟩
  have hm4 := HM3.out.fresh hb4
  have hc4 : (convert 22 9 (.slice A1 2 c1)).run Try.prog w4 = .ok (.string ⟨#[0, 2]⟩) w4 := spell_str (made_spell hm4 rfl)
  have HH : Hid (Calls Try.prog 15 #[.slice A1 2 c1] w4 fun e w' => e = .returned (.bool true) ∧ w' = w4) := Lib.hid (has_any (made_spell hm4 rfl))
  have HB4 := Lib.hid hm4.below
  clear hb4 hm4 HM3
  go_wp2_with fail
  refine HH.out.mono ?_
  rintro e w5 ⟨rfl, rfl⟩
  clear hc4
  go_wp2_with fail
  refine (told_none _).mono ?_
  rintro e w6 ⟨rfl, hb6⟩
  have HB6 := Lib.hid (HB4.out.trans (hb6.mono HB4.out.size))
  clear hb6 HB4
  go_wp2_with fail
  refine (told_lit _ [5] 1 _ rfl (by omega) (q := 5) (by decide)).mono ?_
  rintro e w7 ⟨rfl, hb7⟩
  have HB7 := Lib.hid (HB6.out.trans (hb7.mono HB6.out.size))
  clear hb7 HB6
  go_wp2_with fail
  refine (told_lit _ [5, 1] 2 _ rfl (by omega) (q := 5) (by decide)).mono ?_
  rintro e w8 ⟨rfl, hb8⟩
  have HB8 := Lib.hid (HB7.out.trans (hb8.mono HB7.out.size))
  clear hb8 HB7
  go_wp2_with fail
  refine (told_lit _ [4] 1 _ rfl (by omega) (q := 6) (by decide)).mono ?_
  rintro e w9 ⟨rfl, hb9⟩
  have HB9 := Lib.hid (HB8.out.trans (hb9.mono HB8.out.size))
  clear hb9 HB8
  go_wp2_with fail
  refine (told_lit _ [5, 0] 2 _ rfl (by omega) (q := 6) (by decide)).mono ?_
  rintro e w10 ⟨rfl, hb10⟩
  have HB10 := Lib.hid (HB9.out.trans (hb10.mono HB9.out.size))
  clear hb10 HB9
  go_wp2_with fail
  go_ret
  exact ⟨rfl, HB10.out⟩
end Go.Proofs.Ytdjfpkobnggohaa.gr
