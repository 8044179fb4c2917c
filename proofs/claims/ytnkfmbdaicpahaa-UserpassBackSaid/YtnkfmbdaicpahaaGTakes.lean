/-
  Given for the seat's laws: UserpassTakes at any bytes; the chapter's examples. No condition.
-/
import Derived.Test.YtnkfmbdaicpahaaGRPrint
namespace Go.Proofs.Ytnkfmbdaicpahaa.gr
open Go.RowKit mem
set_option linter.unusedVariables false

def TakeAs (u p : Str) (k q : Nat) (w : World) (e : Ending) (w' : World) : Prop := e = .returned (.tuple #[.string (S u), .string (S p), .int .i64 (k : Int), .int .i64 (q : Int)]) ∧ Below w.heap.size w w'
theorem take_as {w : World} {ok : Nat → Prop} {A : Option Addr} {n c : Nat} {b u p : Str} {k q : Nat} (hs : Spell w ok A n c b) (hok : ∀ g, ok g → g < w.heap.size) (hn : n ≤ 100000) (h : tk b = (u, p, k, q)) : Calls Try.prog 7 #[.slice A n c] w (TakeAs u p k q w) := by
  have h1 := take_any hs hok hn
  rw [h] at h1
  exact h1
theorem rtake_as {w : World} {ok : Nat → Prop} {A : Option Addr} {n c : Nat} {b u p : Str} {k q : Nat} (hs : Spell w ok A n c b) (hok : ∀ g, ok g → g < w.heap.size) (hn : n ≤ 100000) (h : tk b = (u, p, k, q)) : Calls Try.prog 8 #[.slice A n c] w (TakeAs u p k q w) := by
  have h1 := rtake_any hs hok hn
  rw [h] at h1
  exact h1
def AnsAs (x : Bool) (k q : Nat) (w : World) (e : Ending) (w' : World) : Prop := e = .returned (.tuple #[.bool x, .int .i64 (k : Int), .int .i64 (q : Int)]) ∧ Below w.heap.size w w'
theorem ans_as {w : World} {ok : Nat → Prop} {A : Option Addr} {n c : Nat} {b : Str} {x : Bool} {k q : Nat} (hs : Spell w ok A n c b) (hok : ∀ g, ok g → g < w.heap.size) (h : ch b = (x, k, q)) : Calls Try.prog 9 #[.slice A n c] w (AnsAs x k q w) := by
  have h1 := ans_any hs hok
  rw [h] at h1
  exact h1
theorem rans_as {w : World} {ok : Nat → Prop} {A : Option Addr} {n c : Nat} {b : Str} {x : Bool} {k q : Nat} (hs : Spell w ok A n c b) (hok : ∀ g, ok g → g < w.heap.size) (h : ch b = (x, k, q)) : Calls Try.prog 10 #[.slice A n c] w (AnsAs x k q w) := by
  have h1 := rans_any hs hok
  rw [h] at h1
  exact h1

set_option maxHeartbeats 4000000 in
set_option maxRecDepth 100000 in
theorem takes_walk {w : World} {A : Option Addr} {n c : Nat} {bs : List Int} (hs0 : Src w (fun g => g < w.heap.size) A n c bs) : Calls Try.prog 3 #[.slice A n c] w (True_ w) := by
  obtain ⟨b, rfl⟩ := ints_of hs0.rng
  have hs : Spell w (fun g => g < w.heap.size) A n c b := hs0
  have hbl := spell_len hs
  by_cases h3 : 1500 < n
  · clear hs hs0 hbl
    go_enter Try.func3, Try.ntmps3
    go_wp2_with fail
    go_ret
    exact ⟨rfl, Below.refl _ _⟩
  · obtain ⟨A2, c2, w2, happ, hmd⟩ := mine hs (fun g hg => hg) (by omega)
    obtain ⟨u, p, k, q, htk⟩ : ∃ u p k q, tk b = (u, p, k, q) := ⟨_, _, _, _, rfl⟩
    obtain ⟨x, r, s, hch⟩ : ∃ x r s, ch b = (x, r, s) := ⟨_, _, _, rfl⟩
    have HAp := Bx.mk happ
    have HMd := Bx.mk hmd
    have HS := Bx.mk hs
    have HBL := Bx.mk hbl
    have HTK := Bx.mk htk
    have HCH := Bx.mk hch
    have hs1 := (str_eq u).1
    have hs2 := (str_eq p).1
    have hsb := (str_eq b).1
    clear hs hs0 happ hmd hbl htk hch
    go_enter Try.func3, Try.ntmps3
    go_wp2_with (at_builtin; refine wpList_append_eq rfl _ _ rfl rfl rfl rfl HAp.out ?_)
    go_wp2_with fail
    refine (take_as (made_spell HMd.out HBL.out) (fun g hg => hg) (by omega) HTK.out).mono ?_
    rintro e w3 ⟨rfl, hb3⟩
    have HM3 := Bx.mk (HMd.out.fresh hb3)
    clear hb3 HMd
    go_wp2_with fail
    refine (rtake_as (HS.out.below HM3.out.below (fun g hg => hg)) (fun g hg => Nat.lt_of_lt_of_le hg HM3.out.below.size) (by omega) HTK.out).mono ?_
    rintro e w4 ⟨rfl, hb4⟩
    have HM4 := Bx.mk (HM3.out.fresh hb4)
    clear hb4 HM3
    go_wp2_with fail
    refine (ans_as (made_spell HM4.out HBL.out) (fun g hg => hg) HCH.out).mono ?_
    rintro e w5 ⟨rfl, hb5⟩
    have HM5 := Bx.mk (HM4.out.fresh hb5)
    clear hb5 HM4
    go_wp2_with fail
    refine (rans_as (HS.out.below HM5.out.below (fun g hg => hg)) (fun g hg => Nat.lt_of_lt_of_le hg HM5.out.below.size) HCH.out).mono ?_
    rintro e w6 ⟨rfl, hb6⟩
    have HM6 := Bx.mk (HM5.out.fresh hb6)
    have q1 := spell_str (made_spell HM6.out HBL.out)
    have q2 := spell_str (HS.out.below HM6.out.below (fun g hg => hg))
    clear hb6 HM5
    go_wp2_with fail
    go_ret
    exact ⟨rfl, HM6.out.below⟩

theorem lit_spell (w : World) (b : Str) (n : Nat) (fz : Nat × Nat) (hn : b.length = n) (hl : n ≤ 100) :
    Spell (w.alloc (.cells (B8 (ints b)).toArray 5 fz)) (fun g => g < (w.alloc (.cells (B8 (ints b)).toArray 5 fz)).heap.size) (some ⟨w.heap.size, 0, none⟩) n n b := by
  subst hn
  have h1 := src_lit w (ints b) fz (ints_rng b) (by rw [ints_len]; omega)
  rw [ints_len] at h1
  exact h1.weak fun g hg => by subst hg; simp
theorem lit_below (w : World) (o : Obj) : Below w.heap.size w (w.alloc o) := (Below.refl _ _).alloc (Nat.le_refl _) _
theorem take_lit (w : World) (b : Str) (n : Nat) (fz : Nat × Nat) {u p : Str} {k q : Nat} (hn : b.length = n) (hl : n ≤ 100) (h : tk b = (u, p, k, q)) :
    Calls Try.prog 7 #[.slice (some ⟨w.heap.size, 0, none⟩) n n] (w.alloc (.cells (B8 (ints b)).toArray 5 fz)) (TakeAs u p k q w) :=
  (take_as (lit_spell w b n fz hn hl) (fun g hg => hg) (by omega) h).mono fun e w' h => ⟨h.1, (lit_below w _).trans (h.2.mono (by simp))⟩
theorem ans_lit (w : World) (b : Str) (n : Nat) (fz : Nat × Nat) {x : Bool} {k q : Nat} (hn : b.length = n) (hl : n ≤ 100) (h : ch b = (x, k, q)) :
    Calls Try.prog 9 #[.slice (some ⟨w.heap.size, 0, none⟩) n n] (w.alloc (.cells (B8 (ints b)).toArray 5 fz)) (AnsAs x k q w) :=
  (ans_as (lit_spell w b n fz hn hl) (fun g hg => hg) h).mono fun e w' h => ⟨h.1, (lit_below w _).trans (h.2.mono (by simp))⟩
set_option maxHeartbeats 2000000 in
set_option maxRecDepth 100000 in
theorem told_any {w : World} {ok : Nat → Prop} {A : Option Addr} {n c : Nat} {b : Str} {q : Nat} (hs : Spell w ok A n c b) (hok : ∀ g, ok g → g < w.heap.size) (hn : n ≤ 100000) (h : tk b = ([], [], 0, q)) : Calls Try.prog 21 #[.int .i64 (q : Int), .slice A n c] w (True_ w) := by
  have HT := Bx.mk (take_as hs hok hn h)
  clear hs hok h
  go_enter Try.func21, Try.ntmps21
  go_wp2_with fail
  refine HT.out.mono ?_
  rintro e w3 ⟨rfl, hm3⟩
  have HB := Bx.mk hm3
  have e0 : S [] = ⟨#[]⟩ := rfl
  clear hm3
  rw [e0]
  go_wp2_with fail
  go_ret
  exact ⟨rfl, HB.out⟩
theorem told_lit (w : World) (b : Str) (n : Nat) (fz : Nat × Nat) {q : Nat} (hn : b.length = n) (hl : n ≤ 100) (h : tk b = ([], [], 0, q)) :
    Calls Try.prog 21 #[.int .i64 (q : Int), .slice (some ⟨w.heap.size, 0, none⟩) n n] (w.alloc (.cells (B8 (ints b)).toArray 5 fz)) (True_ w) :=
  (told_any (lit_spell w b n fz hn hl) (fun g hg => hg) (by omega) h).mono fun e w' ⟨he, hb⟩ => ⟨he, (lit_below w _).trans (hb.mono (by simp))⟩
theorem print_none (w : World) : Calls Try.prog 12 #[.string ⟨#[]⟩, .string ⟨#[112]⟩] w fun e w' => ∃ A c, e = .returned (.tuple #[.slice A (0 : Nat) c, .int .i64 2]) ∧ Below w.heap.size w w' :=
  (print_bad (s := ⟨#[]⟩) (t := ⟨#[112]⟩) (.inl (by decide)) w).mono fun e w' ⟨A, c, he, hm⟩ => ⟨A, c, he, hm.below⟩

set_option maxHeartbeats 4000000 in
set_option maxRecDepth 100000 in
theorem awake_any (w : World) : Calls Try.prog 15 #[] w (True_ w) := by
  go_enter Try.func15, Try.ntmps15
  go_wp2_with fail
  refine (take_lit _ [1, 1, 117, 2, 112, 113, 9] 7 _ rfl (by omega) (u := [117]) (p := [112, 113]) (k := 6) (q := 0) (by decide)).mono ?_
  rintro e w1 ⟨rfl, hb1⟩
  have HB1 := Bx.mk hb1
  clear hb1
  go_wp2_with fail
  refine (ans_lit _ [1, 0] 2 _ rfl (by omega) (x := true) (k := 2) (q := 0) (by decide)).mono ?_
  rintro e w2 ⟨rfl, hb⟩
  have HB2 := Bx.mk (HB1.out.trans (hb.mono HB1.out.size))
  clear hb HB1
  go_wp2_with fail
  refine (ans_lit _ [1, 7] 2 _ rfl (by omega) (x := false) (k := 2) (q := 0) (by decide)).mono ?_
  rintro e w3 ⟨rfl, hb⟩
  have HB3 := Bx.mk (HB2.out.trans (hb.mono HB2.out.size))
  clear hb HB2
  go_wp2_with fail
  refine (ans_lit _ [5] 1 _ rfl (by omega) (x := false) (k := 0) (q := 6) (by decide)).mono ?_
  rintro e w4 ⟨rfl, hb⟩
  have HB4 := Bx.mk (HB3.out.trans (hb.mono HB3.out.size))
  clear hb HB3
  go_wp2_with fail
  refine (print_none _).mono ?_
  rintro e w5 ⟨A5, c5, rfl, hb⟩
  have HB5 := Bx.mk (HB4.out.trans (hb.mono HB4.out.size))
  clear hb HB4
  have e1 : S [117] = ⟨#[117]⟩ := rfl
  have e2 : S [112, 113] = ⟨#[112, 113]⟩ := rfl
  rw [e1, e2]
  go_wp2_with fail
  refine (told_lit _ [1] 1 _ rfl (by omega) (q := 5) (by decide)).mono ?_
  rintro e w6 ⟨rfl, hb⟩
  have HB6 := Bx.mk (HB5.out.trans (hb.mono HB5.out.size))
  clear hb HB5
  go_wp2_with fail
  refine (told_lit _ [1, 1, 117] 3 _ rfl (by omega) (q := 5) (by decide)).mono ?_
  rintro e w7 ⟨rfl, hb⟩
  have HB7 := Bx.mk (HB6.out.trans (hb.mono HB6.out.size))
  clear hb HB6
  go_wp2_with fail
  refine (told_lit _ [1, 1, 117, 2, 112] 5 _ rfl (by omega) (q := 5) (by decide)).mono ?_
  rintro e w8 ⟨rfl, hb⟩
  have HB8 := Bx.mk (HB7.out.trans (hb.mono HB7.out.size))
  clear hb HB7
  go_wp2_with fail
  refine (told_lit _ [5] 1 _ rfl (by omega) (q := 6) (by decide)).mono ?_
  rintro e w9 ⟨rfl, hb⟩
  have HB9 := Bx.mk (HB8.out.trans (hb.mono HB8.out.size))
  clear hb HB8
  go_wp2_with fail
  refine (told_lit _ [1, 0] 2 _ rfl (by omega) (q := 6) (by decide)).mono ?_
  rintro e w10 ⟨rfl, hb⟩
  have HB10 := Bx.mk (HB9.out.trans (hb.mono HB9.out.size))
  clear hb HB9
  go_wp2_with fail
  refine (told_lit _ [1, 1, 117, 0] 4 _ rfl (by omega) (q := 6) (by decide)).mono ?_
  rintro e w11 ⟨rfl, hb⟩
  have HB11 := Bx.mk (HB10.out.trans (hb.mono HB10.out.size))
  clear hb HB10
  go_wp2_with fail
  go_ret
  exact ⟨rfl, HB11.out⟩
end Go.Proofs.Ytnkfmbdaicpahaa.gr
