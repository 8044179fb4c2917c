/-
  Given for the seat's laws: the chapter's examples. No condition but those of the theorems.
-/
import Derived.Test.YtimlcjdpnhhjdaaRLib2
namespace Go.Proofs.Ytimlcjdpnhhjdaa.rk
open Go.RowKit mem sp
set_option linter.unusedVariables false

theorem sfn_none {key : Str} {l : List Str} {ws : List Int} {j : Nat} (h : ¬ 0 < ws.getD j 0) : Sfn key l ws j = ⟨false, 0⟩ := sco_none h
theorem sfn_has (key : Str) (l : List Str) (ws : List Int) (j : Nat) : (Sfn key l ws j).has = decide (0 < ws.getD j 0) := rfl
theorem bf_none {S : Nat → Sc} {a b : Nat} (ha : S a = ⟨false, 0⟩) (hb : S b = ⟨false, 0⟩) (h : a < b) : before S a b = true := by
  unfold before
  rw [ha, hb, if_pos rfl, if_pos rfl]
  exact decide_eq_true h
theorem bf_has {S : Nat → Sc} {a b : Nat} (ha : (S a).has = true) (hb : S b = ⟨false, 0⟩) : before S a b = true := by
  unfold before
  rw [ha, hb, if_neg (by simp)]
theorem ex1 {key : Str} {l : List Str} {o : List Nat} (h : Ord (Sfn key l [0, 0, -1]) 3 o) : o = [0, 1, 2] := by
  refine h.one ⟨.refl _, ?_⟩
  have s0 : Sfn key l [0, 0, -1] 0 = ⟨false, 0⟩ := sfn_none (by decide)
  have s1 : Sfn key l [0, 0, -1] 1 = ⟨false, 0⟩ := sfn_none (by decide)
  have s2 : Sfn key l [0, 0, -1] 2 = ⟨false, 0⟩ := sfn_none (by decide)
  simp [bf_none s0 s1, bf_none s0 s2, bf_none s1 s2]
theorem ex2 {key : Str} {l : List Str} {o : List Nat} (h : Ord (Sfn key l [0, 5, 0]) 3 o) : o = [1, 0, 2] := by
  refine h.one ⟨by decide, ?_⟩
  have s0 : Sfn key l [0, 5, 0] 0 = ⟨false, 0⟩ := sfn_none (by decide)
  have s1 : (Sfn key l [0, 5, 0] 1).has = true := by rw [sfn_has]; decide
  have s2 : Sfn key l [0, 5, 0] 2 = ⟨false, 0⟩ := sfn_none (by decide)
  simp [bf_has s1 s0, bf_has s1 s2, bf_none s0 s2]

theorem order0 (w : World) : Calls Try.prog 14 #[.slice none 0 0, .slice none 0 0, .slice none 0 0] w fun e w' => ∃ g, e = .returned (.slice (some ⟨g, 0, none⟩) 0 0) ∧ Below w.heap.size w w' :=
  (order_any (okk := fun _ => False) (okn := fun _ => False) (okw := fun _ => False) (N := 0) (l := []) (ws := []) (show Spell w (fun _ => False) none 0 0 [] from Src.nil w _) (fun _ h => h.elim) rfl ⟨fun h => absurd h (by simp [strs])⟩ (fun _ h => h.elim) (by simp) rfl ⟨fun h => absurd h (by simp [intv])⟩ (fun _ h => h.elim) rfl (by omega)).mono
    fun e w' ⟨o, g, he, _, _, _, hb⟩ => ⟨g, he, hb⟩
theorem order3 {w : World} {gn gw : Nat} {ws : List Int} (hn : Lies w gn 9 #[.string ⟨#[97]⟩, .string ⟨#[98]⟩, .string ⟨#[99]⟩]) (hw : Lies w gw 3 (intv ws).toArray) (h3 : ws.length = 3) {p : List Nat} (hp : ∀ o, Ord (Sfn [] [[97], [98], [99]] ws) 3 o → o = p) :
    Calls Try.prog 14 #[.slice none 0 0, .slice (some ⟨gn, 0, none⟩) 3 3, .slice (some ⟨gw, 0, none⟩) 3 3] w fun e w' => ∃ g, e = .returned (.slice (some ⟨g, 0, none⟩) 3 3) ∧ Lies w' g 3 (nats p).toArray ∧ Below w.heap.size w w' :=
  (order_any (okk := fun _ => False) (okn := fun g => g = gn) (okw := fun g => g = gw) (N := 3) (l := [[97], [98], [99]]) (ws := ws) (show Spell w (fun _ => False) none 0 0 [] from Src.nil w _) (fun _ h => h.elim) rfl (RowAt.of_lies hn rfl rfl) (fun g e => by subst e; exact hn.lt) (by simp) h3 (RowAt.of_lies hw rfl (by simp)) (fun g e => by subst e; exact hw.lt) rfl (by omega)).mono
    fun e w' ⟨o, g, he, ho, hl, _, hb⟩ => ⟨g, he, by rw [← hp o ho]; exact hl, hb⟩
theorem same3 {w : World} {g h : Nat} {p : List Nat} {cs : List Int} (hg : Lies w g 3 (nats p).toArray) (hh : Lies w h 3 (intv cs).toArray) (h3 : p.length = 3) (c3 : cs.length = 3) (he : p.map (fun x : Nat => (x : Int)) = cs) :
    Calls Try.prog 15 #[.slice (some ⟨g, 0, none⟩) 3 3, .slice (some ⟨h, 0, none⟩) 3 3] w fun e w' => e = .returned (.bool true) ∧ Below w.heap.size w w' :=
  (same_any (oka := fun x => x = g) (okb := fun x => x = h) (a := p.map (fun x : Nat => (x : Int))) (b := cs) (by simpa using h3) (RowAt.of_lies hg rfl (by simp [nats, intv])) (fun x e => by subst e; exact hg.lt) c3 (RowAt.of_lies hh rfl (by simp)) (fun x e => by subst e; exact hh.lt) (by omega)).mono
    fun e w' ⟨h1, h2⟩ => ⟨by rw [h1]; simp [he], h2⟩

set_option maxHeartbeats 4000000 in
set_option maxRecDepth 100000 in
theorem awake_any (w : World) : Calls Try.prog 17 #[] w (True_ w) := by
  obtain ⟨w0, hw0⟩ : ∃ w0, w0 = w.alloc (.cells #[.string ⟨#[97]⟩, .string ⟨#[98]⟩, .string ⟨#[99]⟩] 9) := ⟨_, rfl⟩
  have hb0 : Below w.heap.size w w0 := by rw [hw0]; exact (Below.refl _ w).alloc (Nat.le_refl _) _
  have hl0 : Lies w0 w.heap.size 9 #[.string ⟨#[97]⟩, .string ⟨#[98]⟩, .string ⟨#[99]⟩] := by rw [hw0]; exact Lies.new _ _ _
  have HB0 := Bx.mk hb0
  have HL0 := Bx.mk hl0
  clear hb0 hl0
  go_enter Try.func17, Try.ntmps17
  go_wp2_with fail
  rw [← hw0]
  clear hw0
  refine (order0 _).mono ?_
  rintro e w1 ⟨g1, rfl, hb1⟩
  have HB1 := Bx.mk (HB0.out.trans (hb1.mono HB0.out.size))
  have HL1 := Bx.mk (HL0.out.below hb1 HL0.out.lt)
  clear hb1
  go_wp2_with fail
  have al1 : Below w1.heap.size w1 (w1.alloc (.cells #[.int .i64 0, .int .i64 0, .int .i64 (-1)] 3)) := (Below.refl _ _).alloc (Nat.le_refl _) _
  have HO1 := Bx.mk (order3 (gw := w1.heap.size) (ws := [0, 0, -1]) (HL1.out.below al1 HL1.out.lt) (Lies.new w1 3 _) rfl (fun o => ex1))
  have HB1' := Bx.mk (HB1.out.alloc HB1.out.size (.cells #[.int .i64 0, .int .i64 0, .int .i64 (-1)] 3))
  have HL1' := Bx.mk (HL1.out.below al1 HL1.out.lt)
  refine HO1.out.mono ?_
  rintro e w2 ⟨g2, rfl, hl2, hb2⟩
  have HB2 := Bx.mk (HB1'.out.trans (hb2.mono HB1'.out.size))
  have HL2 := Bx.mk (HL1'.out.below hb2 HL1'.out.lt)
  have HP2 := Bx.mk hl2
  clear hl2 hb2 al1 HO1 HB1' HL1'
  go_wp2_with fail
  have al2 : Below w2.heap.size w2 (w2.alloc (.cells #[.int .i64 0, .int .i64 1, .int .i64 2] 3)) := (Below.refl _ _).alloc (Nat.le_refl _) _
  have HS2 := Bx.mk (same3 (h := w2.heap.size) (cs := [0, 1, 2]) (HP2.out.below al2 HP2.out.lt) (Lies.new w2 3 _) rfl rfl rfl)
  have HB2' := Bx.mk (HB2.out.alloc HB2.out.size (.cells #[.int .i64 0, .int .i64 1, .int .i64 2] 3))
  have HL2' := Bx.mk (HL2.out.below al2 HL2.out.lt)
  refine HS2.out.mono ?_
  rintro e w3 ⟨rfl, hb3⟩
  have HB3 := Bx.mk (HB2'.out.trans (hb3.mono HB2'.out.size))
  have HL3 := Bx.mk (HL2'.out.below hb3 HL2'.out.lt)
  clear hb3 al2 HS2 HB2' HL2'
  go_wp2_with fail
  have al3 : Below w3.heap.size w3 (w3.alloc (.cells #[.int .i64 0, .int .i64 5, .int .i64 0] 3)) := (Below.refl _ _).alloc (Nat.le_refl _) _
  have HO3 := Bx.mk (order3 (gw := w3.heap.size) (ws := [0, 5, 0]) (HL3.out.below al3 HL3.out.lt) (Lies.new w3 3 _) rfl (fun o => ex2))
  have HB3' := Bx.mk (HB3.out.alloc HB3.out.size (.cells #[.int .i64 0, .int .i64 5, .int .i64 0] 3))
  refine HO3.out.mono ?_
  rintro e w4 ⟨g4, rfl, hl4, hb4⟩
  have HB4 := Bx.mk (HB3'.out.trans (hb4.mono HB3'.out.size))
  have HP4 := Bx.mk hl4
  clear hl4 hb4 al3 HO3 HB3'
  go_wp2_with fail
  have al4 : Below w4.heap.size w4 (w4.alloc (.cells #[.int .i64 1, .int .i64 0, .int .i64 2] 3)) := (Below.refl _ _).alloc (Nat.le_refl _) _
  have HS4 := Bx.mk (same3 (h := w4.heap.size) (cs := [1, 0, 2]) (HP4.out.below al4 HP4.out.lt) (Lies.new w4 3 _) rfl rfl rfl)
  have HB4' := Bx.mk (HB4.out.alloc HB4.out.size (.cells #[.int .i64 1, .int .i64 0, .int .i64 2] 3))
  refine HS4.out.mono ?_
  rintro e w5 ⟨rfl, hb5⟩
  have HB5 := Bx.mk (HB4'.out.trans (hb5.mono HB4'.out.size))
  clear hb5 al4 HS4 HB4'
  go_wp2
  go_ret
  exact ⟨rfl, HB5.out⟩
end Go.Proofs.Ytimlcjdpnhhjdaa.rk
