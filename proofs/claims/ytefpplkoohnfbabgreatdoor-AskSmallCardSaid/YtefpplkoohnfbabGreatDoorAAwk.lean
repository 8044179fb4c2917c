/-
  Given for the seat's laws: the chapter's examples. No condition but those of the theorems.
-/
import Derived.Test.YtefpplkoohnfbabGreatDoorAPrint
import Derived.Deep.RegionHeld3
import Derived.Deep.RegionWith
namespace Go.Proofs.YtefpplkoohnfbabGreatDoor.ak
open Go.RowKit mem hostp hw own
set_option linter.unusedVariables false

def TakeV (v : Value) (w : World) (e : Ending) (w' : World) : Prop := e = .returned v ∧ Below w.heap.size w w'
theorem take_as {w : World} {ok : Nat → Prop} {A : Option Addr} {n c : Nat} {b : Str} (hs : Spell w ok A n c b) (hok : ∀ g, ok g → g < w.heap.size) (hn : n ≤ 100000) (he : Env w) {x : TK} (h : tk b = x) : Calls Tryz.prog 6 #[.slice A n c] w (TakeV (.tuple #[.agg #[.int .u8 (x.kind : Int), .string (S x.text), .int .i64 (x.port : Int)], .int .i64 (x.n : Int), .int .i64 (x.e : Int)]) w) := by
  have h1 := take_any hs hok hn he
  rw [h] at h1
  exact h1
theorem rep_as {w : World} {ok : Nat → Prop} {A : Option Addr} {n c : Nat} {b : Str} (hs : Spell w ok A n c b) (hok : ∀ g, ok g → g < w.heap.size) (hn : n ≤ 100000) {x : CH} (h : ch b = x) : Calls Tryz.prog 7 #[.slice A n c] w (TakeV (.tuple #[.int .u8 (x.num : Int), .int .i64 (x.n : Int), .int .i64 (x.e : Int)]) w) := by
  have h1 := rep_any hs hok hn
  rw [h] at h1
  exact h1
theorem lit_spell (w : World) (b : Str) (n : Nat) (fz : Nat × Nat) (hn : b.length = n) (hl : n ≤ 100) :
    Spell (w.alloc (.cells (B8 (ints b)).toArray 5 fz)) (fun g => g < (w.alloc (.cells (B8 (ints b)).toArray 5 fz)).heap.size) (some ⟨w.heap.size, 0, none⟩) n n b := by
  subst hn
  have h1 := src_lit w (ints b) fz (ints_rng b) (by rw [ints_len]; omega)
  rw [ints_len] at h1
  exact h1.weak fun g hg => by subst hg; simp
theorem lit_below (w : World) (o : Obj) : Below w.heap.size w (w.alloc o) := (Below.refl _ _).alloc (Nat.le_refl _) _
theorem take_lit (w : World) (he : Env w) (b : Str) (n : Nat) (fz : Nat × Nat) {x : TK} (hn : b.length = n) (hl : n ≤ 100) (h : tk b = x) :
    Calls Tryz.prog 6 #[.slice (some ⟨w.heap.size, 0, none⟩) n n] (w.alloc (.cells (B8 (ints b)).toArray 5 fz)) (TakeV (.tuple #[.agg #[.int .u8 (x.kind : Int), .string (S x.text), .int .i64 (x.port : Int)], .int .i64 (x.n : Int), .int .i64 (x.e : Int)]) w) :=
  (take_as (lit_spell w b n fz hn hl) (fun g hg => hg) (by omega) (he.alloc _) h).mono fun e w' h => ⟨h.1, (lit_below w _).trans (h.2.mono (by simp))⟩
theorem rep_lit (w : World) (b : Str) (n : Nat) (fz : Nat × Nat) {x : CH} (hn : b.length = n) (hl : n ≤ 100) (h : ch b = x) :
    Calls Tryz.prog 7 #[.slice (some ⟨w.heap.size, 0, none⟩) n n] (w.alloc (.cells (B8 (ints b)).toArray 5 fz)) (TakeV (.tuple #[.int .u8 (x.num : Int), .int .i64 (x.n : Int), .int .i64 (x.e : Int)]) w) :=
  (rep_as (lit_spell w b n fz hn hl) (fun g hg => hg) (by omega) h).mono fun e w' h => ⟨h.1, (lit_below w _).trans (h.2.mono (by simp))⟩
set_option maxHeartbeats 2000000 in
set_option maxRecDepth 100000 in
theorem told_any {w : World} {ok : Nat → Prop} {A : Option Addr} {n c : Nat} {b : Str} {q : Nat} (hs : Spell w ok A n c b) (hok : ∀ g, ok g → g < w.heap.size) (hn : n ≤ 100000) (he : Env w) (h : tk b = none_ q) : Calls Tryz.prog 8 #[.int .i64 (q : Int), .slice A n c] w (True_ w) := by
  have HT : Bx (Calls Tryz.prog 6 #[.slice A n c] w (TakeV (.tuple #[.agg #[.int .u8 0, .string ⟨#[]⟩, .int .i64 0], .int .i64 0, .int .i64 (q : Int)]) w)) := ⟨take_as hs hok hn he h⟩
  clear hs hok h he
  go_enter Tryz.func8, Tryz.ntmps8
  go_wp2_with fail
  refine HT.out.mono ?_
  rintro e w3 ⟨rfl, hm3⟩
  have HB := Bx.mk (hm3.alloc hm3.size (.cells #[.int .u8 0, .string ⟨#[]⟩, .int .i64 0] 25))
  clear hm3 HT
  go_wp2_with fail
  go_ret
  exact ⟨rfl, HB.out⟩
/-- a beginning that lies as a literal -/
theorem told_lit (W V : World) (b : Str) (n : Nat) {q : Nat} (hV : V.heap = (W.alloc (.cells (B8 (ints b)).toArray 5)).heap) (hb : Below W.heap.size W V) (he : Env W) (hn : b.length = n) (hl : n ≤ 100) (h : tk b = none_ q) :
    Calls Tryz.prog 8 #[.int .i64 (q : Int), .slice (some ⟨W.heap.size, 0, none⟩) n n] V (True_ W) := by
  have hs := (lit_spell W b n (0, 0) hn hl).keep (w' := V) (fun g _ => by rw [hV])
  exact (told_any hs (fun g hg => by rw [hV]; exact hg) (by omega) (he.below hb) h).mono fun e w' ⟨he, hb2⟩ => ⟨he, hb.trans (hb2.mono hb.size)⟩
/-- a world that lies between -/
theorem conv_rpl {X V : World} {A : Option Addr} {c : Nat} (hm : Made X V (.slice A (10 : Nat) c) (rpl 2)) : (convert 28 9 (.slice A (10 : Nat) c)).run Tryz.prog V = .ok (.string ⟨#[5, 2, 0, 1, 0, 0, 0, 0, 0, 0]⟩) V := spell_str (made_spell hm rfl)
theorem conv_rpl' {X V : World} {A : Option Addr} {c : Nat} (hm : Made X V (.slice A (10 : Nat) c) (rpl 2)) (o : Obj) : (convert 28 9 (.slice A (10 : Nat) c)).run Tryz.prog (V.alloc o) = .ok (.string ⟨#[5, 2, 0, 1, 0, 0, 0, 0, 0, 0]⟩) (V.alloc o) :=
  spell_str ((made_spell hm rfl).below (lit_below V o) (fun g hg => hg))
theorem conv_lit (V : World) : (convert 28 9 (.slice (some ⟨V.heap.size, 0, none⟩) (10 : Nat) 10)).run Tryz.prog (V.alloc (.cells #[.int .u8 5, .int .u8 2, .int .u8 0, .int .u8 1, .int .u8 0, .int .u8 0, .int .u8 0, .int .u8 0, .int .u8 0, .int .u8 0] 5)) = .ok (.string ⟨#[5, 2, 0, 1, 0, 0, 0, 0, 0, 0]⟩) (V.alloc (.cells #[.int .u8 5, .int .u8 2, .int .u8 0, .int .u8 1, .int .u8 0, .int .u8 0, .int .u8 0, .int .u8 0, .int .u8 0, .int .u8 0] 5)) :=
  spell_str (lit_spell V [5, 2, 0, 1, 0, 0, 0, 0, 0, 0] 10 (0, 0) rfl (by omega))
theorem conv_litb {X V : World} (hb : Below (X.alloc (.cells #[.int .u8 5, .int .u8 2, .int .u8 0, .int .u8 1, .int .u8 0, .int .u8 0, .int .u8 0, .int .u8 0, .int .u8 0, .int .u8 0] 5)).heap.size (X.alloc (.cells #[.int .u8 5, .int .u8 2, .int .u8 0, .int .u8 1, .int .u8 0, .int .u8 0, .int .u8 0, .int .u8 0, .int .u8 0, .int .u8 0] 5)) V) : (convert 28 9 (.slice (some ⟨X.heap.size, 0, none⟩) (10 : Nat) 10)).run Tryz.prog V = .ok (.string ⟨#[5, 2, 0, 1, 0, 0, 0, 0, 0, 0]⟩) V :=
  spell_str ((lit_spell X [5, 2, 0, 1, 0, 0, 0, 0, 0, 0] 10 (0, 0) rfl (by omega)).below hb (fun g hg => hg))
theorem in_le {W X : World} (h : Below W.heap.size W X) : W.heap.size ≤ X.heap.size := h.size
set_option maxHeartbeats 8000000 in
set_option maxRecDepth 100000 in
theorem awake_any (w : World) (he : Env w) (hN : Nums w) : Calls Tryz.prog 4 #[] w (True_ w) := by
  have hmix : Tryz.prog.follows .mixedOrders = true := by kernel_rfl
  have HE : Bx (∀ V, Below w.heap.size w V → Env V) := ⟨fun V hV => he.below hV⟩
  have HN : Bx (∀ V, Below w.heap.size w V → Nums V) := ⟨fun V hV => hN.below hV (Nat.le_refl _)⟩
  have T0 : Bx (∀ W V : World, V.heap = (W.alloc (.cells #[.int .u8 5, .int .u8 1, .int .u8 0, .int .u8 3, .int .u8 3, .int .u8 65] 5)).heap → Below W.heap.size W V → Env W → Calls Tryz.prog 8 #[.int .i64 5, .slice (some ⟨W.heap.size, 0, none⟩) 6 6] V (True_ W)) := ⟨fun W V hV hb he => told_lit W V [5, 1, 0, 3, 3, 65] 6 hV hb he rfl (by omega) (q := 5) (by decide +kernel)⟩
  have T1 : Bx (∀ W V : World, V.heap = (W.alloc (.cells #[.int .u8 5, .int .u8 1, .int .u8 0, .int .u8 1, .int .u8 10, .int .u8 0, .int .u8 0, .int .u8 7, .int .u8 0] 5)).heap → Below W.heap.size W V → Env W → Calls Tryz.prog 8 #[.int .i64 5, .slice (some ⟨W.heap.size, 0, none⟩) 9 9] V (True_ W)) := ⟨fun W V hV hb he => told_lit W V [5, 1, 0, 1, 10, 0, 0, 7, 0] 9 hV hb he rfl (by omega) (q := 5) (by decide +kernel)⟩
  have T2 : Bx (∀ W V : World, V.heap = (W.alloc (.cells #[.int .u8 5, .int .u8 2] 5)).heap → Below W.heap.size W V → Env W → Calls Tryz.prog 8 #[.int .i64 140, .slice (some ⟨W.heap.size, 0, none⟩) 2 2] V (True_ W)) := ⟨fun W V hV hb he => told_lit W V [5, 2] 2 hV hb he rfl (by omega) (q := 140) (by decide +kernel)⟩
  have T3 : Bx (∀ W V : World, V.heap = (W.alloc (.cells #[.int .u8 5, .int .u8 1, .int .u8 0, .int .u8 2] 5)).heap → Below W.heap.size W V → Env W → Calls Tryz.prog 8 #[.int .i64 141, .slice (some ⟨W.heap.size, 0, none⟩) 4 4] V (True_ W)) := ⟨fun W V hV hb he => told_lit W V [5, 1, 0, 2] 4 hV hb he rfl (by omega) (q := 141) (by decide +kernel)⟩
  have T4 : Bx (∀ W V : World, V.heap = (W.alloc (.cells #[.int .u8 5, .int .u8 1, .int .u8 1] 5)).heap → Below W.heap.size W V → Env W → Calls Tryz.prog 8 #[.int .i64 6, .slice (some ⟨W.heap.size, 0, none⟩) 3 3] V (True_ W)) := ⟨fun W V hV hb he => told_lit W V [5, 1, 1] 3 hV hb he rfl (by omega) (q := 6) (by decide +kernel)⟩
  have T5 : Bx (∀ W V : World, V.heap = (W.alloc (.cells #[.int .u8 5, .int .u8 1, .int .u8 0, .int .u8 3, .int .u8 0] 5)).heap → Below W.heap.size W V → Env W → Calls Tryz.prog 8 #[.int .i64 6, .slice (some ⟨W.heap.size, 0, none⟩) 5 5] V (True_ W)) := ⟨fun W V hV hb he => told_lit W V [5, 1, 0, 3, 0] 5 hV hb he rfl (by omega) (q := 6) (by decide +kernel)⟩
  have T6 : Bx (∀ W V : World, V.heap = (W.alloc (.cells #[.int .u8 5, .int .u8 1, .int .u8 0, .int .u8 3, .int .u8 3, .int .u8 46] 5)).heap → Below W.heap.size W V → Env W → Calls Tryz.prog 8 #[.int .i64 6, .slice (some ⟨W.heap.size, 0, none⟩) 6 6] V (True_ W)) := ⟨fun W V hV hb he => told_lit W V [5, 1, 0, 3, 3, 46] 6 hV hb he rfl (by omega) (q := 6) (by decide +kernel)⟩
  have T7 : Bx (∀ W V : World, V.heap = (W.alloc (.cells #[.int .u8 5, .int .u8 1, .int .u8 0, .int .u8 3, .int .u8 41] 5)).heap → Below W.heap.size W V → Env W → Calls Tryz.prog 8 #[.int .i64 6, .slice (some ⟨W.heap.size, 0, none⟩) 5 5] V (True_ W)) := ⟨fun W V hV hb he => told_lit W V [5, 1, 0, 3, 41] 5 hV hb he rfl (by omega) (q := 6) (by decide +kernel)⟩
  have T8 : Bx (∀ W V : World, V.heap = (W.alloc (.cells #[.int .u8 5, .int .u8 1, .int .u8 0, .int .u8 1, .int .u8 1, .int .u8 2, .int .u8 3, .int .u8 4, .int .u8 0, .int .u8 0] 5)).heap → Below W.heap.size W V → Env W → Calls Tryz.prog 8 #[.int .i64 6, .slice (some ⟨W.heap.size, 0, none⟩) 10 10] V (True_ W)) := ⟨fun W V hV hb he => told_lit W V [5, 1, 0, 1, 1, 2, 3, 4, 0, 0] 10 hV hb he rfl (by omega) (q := 6) (by decide +kernel)⟩
  have C0 : Bx (∀ W : World, Env W → Calls Tryz.prog 6 #[.slice (some ⟨W.heap.size, 0, none⟩) 11 11] (W.alloc (.cells #[.int .u8 5, .int .u8 1, .int .u8 0, .int .u8 1, .int .u8 10, .int .u8 0, .int .u8 0, .int .u8 7, .int .u8 0, .int .u8 80, .int .u8 9] 5)) (TakeV (.tuple #[.agg #[.int .u8 1, .string ⟨#[10, 0, 0, 7]⟩, .int .i64 80], .int .i64 10, .int .i64 0]) W)) := ⟨fun W he => take_lit W he [5, 1, 0, 1, 10, 0, 0, 7, 0, 80, 9] 11 (0, 0) rfl (by omega) (x := ⟨1, [10, 0, 0, 7], 80, 10, 0⟩) (by decide +kernel)⟩
  have C1 : Bx (∀ W : World, Env W → Calls Tryz.prog 6 #[.slice (some ⟨W.heap.size, 0, none⟩) 10 10] (W.alloc (.cells #[.int .u8 5, .int .u8 1, .int .u8 0, .int .u8 3, .int .u8 3, .int .u8 65, .int .u8 46, .int .u8 98, .int .u8 1, .int .u8 187] 5)) (TakeV (.tuple #[.agg #[.int .u8 3, .string ⟨#[97, 46, 98]⟩, .int .i64 443], .int .i64 10, .int .i64 0]) W)) := ⟨fun W he => take_lit W he [5, 1, 0, 3, 3, 65, 46, 98, 1, 187] 10 (0, 0) rfl (by omega) (x := ⟨3, [97, 46, 98], 443, 10, 0⟩) (by decide +kernel)⟩
  have C2 : Bx (∀ W : World, Calls Tryz.prog 7 #[.slice (some ⟨W.heap.size, 0, none⟩) 8 8] (W.alloc (.cells #[.int .u8 5, .int .u8 4, .int .u8 0, .int .u8 3, .int .u8 1, .int .u8 0, .int .u8 7, .int .u8 7] 5)) (TakeV (.tuple #[.int .u8 4, .int .i64 8, .int .i64 0]) W)) := ⟨fun W => rep_lit W [5, 4, 0, 3, 1, 0, 7, 7] 8 (0, 0) rfl (by omega) (x := ⟨4, 8, 0⟩) (by decide +kernel)⟩
  have R0 : Bx (∀ W, Nums W → Calls Tryz.prog 9 #[.int .u8 9] W (fun e w' => ∃ A c, e = .returned (.slice A (10 : Nat) c) ∧ Made W w' (.slice A (10 : Nat) c) (rpl 2))) := ⟨fun W h => reply_any 9 (by omega) W h⟩
  clear he hN
  go_enter Tryz.func4, Tryz.ntmps4
  go_wp2_with fail
  refine (C0.out _ (HE.out _ (Below.refl _ _))).mono ?_
  rintro e w1 ⟨rfl, hb1⟩
  have hb1a := hb1.alloc hb1.size (.cells #[.int .u8 1, .string ⟨#[10, 0, 0, 7]⟩, .int .i64 80] 25)
  have hl1 := Lies.new w1 25 #[.int .u8 1, .string ⟨#[10, 0, 0, 7]⟩, .int .i64 80]
  have HE1 := Bx.mk (HE.out _ hb1a)
  have HB1 := Bx.mk hb1a
  have HL1 := Bx.mk hl1
  clear hb1 C0 hb1a hl1
  go_upto_region 2 with fail
  generalize w1.alloc (.cells #[.int .u8 1, .string ⟨#[10, 0, 0, 7]⟩, .int .i64 80] 25) = W1 at *
  generalize w1.heap.size = g1 at *
  go_wp2_with fail
  refine (C1.out _ HE1.out).mono ?_
  rintro e w2 ⟨rfl, hb2⟩
  have hb2a := HB1.out.trans ((hb2.alloc hb2.size (.cells #[.int .u8 3, .string ⟨#[97, 46, 98]⟩, .int .i64 443] 25)).mono HB1.out.size)
  have hl1a := (HL1.out.below hb2 HL1.out.lt).alloc (.cells #[.int .u8 3, .string ⟨#[97, 46, 98]⟩, .int .i64 443] 25)
  have hl2 := Lies.new w2 25 #[.int .u8 3, .string ⟨#[97, 46, 98]⟩, .int .i64 443]
  have HB2 := Bx.mk hb2a
  have HL1a := Bx.mk hl1a
  have HL2 := Bx.mk hl2
  clear hb2 C1 hb2a hl1a hl2 HB1 HL1 HE1
  go_upto_region 3 with fail
  generalize w2.alloc (.cells #[.int .u8 3, .string ⟨#[97, 46, 98]⟩, .int .i64 443] 25) = W2 at *
  generalize w2.heap.size = g2 at *
  go_wp2_with fail
  refine (C2.out _).mono ?_
  rintro e w3 ⟨rfl, hb3⟩
  have hl1b := HL1a.out.below hb3 HL1a.out.lt
  have hl2b := HL2.out.below hb3 HL2.out.lt
  have HB3 := Bx.mk (HB2.out.trans (hb3.mono HB2.out.size))
  have c0 := hl1b.cell 0
  have c1 := hl1b.cell 1
  have c2 := hl1b.cell 2
  have d0 := hl2b.cell 0
  have d1 := hl2b.cell 1
  have d2 := hl2b.cell 2
  simp at c0 c1 c2 d0 d1 d2
  clear hb3 C2 HB2 HL1a HL2 hl1b hl2b
  go_upto_region 6 with fail
  clear c0 c1 c2 d0 d1 d2
  have HBX := HB3
  clear HB3
  go_region_with
    (first
      | (go_at_call 8; refine (T0.out _ _ (by first | rfl | simp) (by first | exact (Below.refl _ _).alloc (Nat.le_refl _) _ | exact ((Below.refl _ _).alloc (Nat.le_refl _) _).drew) (HE.out _ HBX.out)).mono ?_; clear T0; rintro e v0 ⟨rfl, hb⟩; replace HBX := Bx.mk (HBX.out.trans (hb.mono HBX.out.size)); clear hb)
      | (go_at_call 8; refine (T1.out _ _ (by first | rfl | simp) (by first | exact (Below.refl _ _).alloc (Nat.le_refl _) _ | exact ((Below.refl _ _).alloc (Nat.le_refl _) _).drew) (HE.out _ HBX.out)).mono ?_; clear T1; rintro e v1 ⟨rfl, hb⟩; replace HBX := Bx.mk (HBX.out.trans (hb.mono HBX.out.size)); clear hb)
      | (go_at_call 8; refine (T2.out _ _ (by first | rfl | simp) (by first | exact (Below.refl _ _).alloc (Nat.le_refl _) _ | exact ((Below.refl _ _).alloc (Nat.le_refl _) _).drew) (HE.out _ HBX.out)).mono ?_; clear T2; rintro e v2 ⟨rfl, hb⟩; replace HBX := Bx.mk (HBX.out.trans (hb.mono HBX.out.size)); clear hb)
      | (go_at_call 8; refine (T3.out _ _ (by first | rfl | simp) (by first | exact (Below.refl _ _).alloc (Nat.le_refl _) _ | exact ((Below.refl _ _).alloc (Nat.le_refl _) _).drew) (HE.out _ HBX.out)).mono ?_; clear T3; rintro e v3 ⟨rfl, hb⟩; replace HBX := Bx.mk (HBX.out.trans (hb.mono HBX.out.size)); clear hb)
      | (go_at_call 8; refine (T4.out _ _ (by first | rfl | simp) (by first | exact (Below.refl _ _).alloc (Nat.le_refl _) _ | exact ((Below.refl _ _).alloc (Nat.le_refl _) _).drew) (HE.out _ HBX.out)).mono ?_; clear T4; rintro e v4 ⟨rfl, hb⟩; replace HBX := Bx.mk (HBX.out.trans (hb.mono HBX.out.size)); clear hb)
      | (go_at_call 8; refine (T5.out _ _ (by first | rfl | simp) (by first | exact (Below.refl _ _).alloc (Nat.le_refl _) _ | exact ((Below.refl _ _).alloc (Nat.le_refl _) _).drew) (HE.out _ HBX.out)).mono ?_; clear T5; rintro e v5 ⟨rfl, hb⟩; replace HBX := Bx.mk (HBX.out.trans (hb.mono HBX.out.size)); clear hb)
      | (go_at_call 8; refine (T6.out _ _ (by first | rfl | simp) (by first | exact (Below.refl _ _).alloc (Nat.le_refl _) _ | exact ((Below.refl _ _).alloc (Nat.le_refl _) _).drew) (HE.out _ HBX.out)).mono ?_; clear T6; rintro e v6 ⟨rfl, hb⟩; replace HBX := Bx.mk (HBX.out.trans (hb.mono HBX.out.size)); clear hb)
      | (go_at_call 8; refine (T7.out _ _ (by first | rfl | simp) (by first | exact (Below.refl _ _).alloc (Nat.le_refl _) _ | exact ((Below.refl _ _).alloc (Nat.le_refl _) _).drew) (HE.out _ HBX.out)).mono ?_; clear T7; rintro e v7 ⟨rfl, hb⟩; replace HBX := Bx.mk (HBX.out.trans (hb.mono HBX.out.size)); clear hb)
      | (go_at_call 8; refine (T8.out _ _ (by first | rfl | simp) (by first | exact (Below.refl _ _).alloc (Nat.le_refl _) _ | exact ((Below.refl _ _).alloc (Nat.le_refl _) _).drew) (HE.out _ HBX.out)).mono ?_; clear T8; rintro e v8 ⟨rfl, hb⟩; replace HBX := Bx.mk (HBX.out.trans (hb.mono HBX.out.size)); clear hb; have kk := conv_lit v8)
      | (go_at_call 9; refine (R0.out _ (HN.out _ (by first | with_reducible exact HBX.out | with_reducible exact HBX.out.alloc HBX.out.size _))).mono ?_; clear R0; rintro e v9 ⟨A9, c9, rfl, hm⟩; first
          | (replace HBX := Bx.mk (step_bb (by with_reducible exact HBX.out) hm.below); have k1 := conv_rpl hm; have k2 := conv_rpl' hm; have k3 := conv_lit v9; clear hm)
          | (replace HBX := Bx.mk (step_bb (by with_reducible exact HBX.out.alloc HBX.out.size _) hm.below); have k1 := conv_rpl hm; have k3 := conv_litb hm.below; clear hm)))
  all_goals
    go_wp2_with fail
    go_ret
    exact ⟨rfl, by first | with_reducible exact HBX.out | with_reducible exact HBX.out.alloc HBX.out.size _⟩
end Go.Proofs.YtefpplkoohnfbabGreatDoor.ak
