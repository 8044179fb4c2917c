/-
  Given for the seat's laws: Give where the rack is full, or nobody made it. No condition but those of the theorems.
-/
import Derived.Test.YtcecdcdnjbndiaaOwn
namespace Go.Proofs.Ytcecdcdnjbndiaa.rack
open Go.RowKit Go.Shelf mem find
set_option linter.unusedVariables false

/-- Give's four boxes: the receiver, the value, the two results -/
structure Boxes4 (W : World) (b r : Nat) (v x e : Int) : Prop where
  b0 : Lies W b 23 #[.pointer (some ⟨r, 0, none⟩)]
  b1 : Lies W (b + 1) 3 #[.int .i64 v]
  b2 : Lies W (b + 1 + 1) 3 #[.int .i64 x]
  b3 : Lies W (b + 1 + 1 + 1) 24 #[.int .i64 e]

/-- the world behind Give's first region -/
abbrev four (w : World) (r : Nat) (v : Int) : World :=
  (((w.alloc (.cells #[.pointer (some ⟨r, 0, none⟩)] 23)).alloc (.cells #[.int .i64 v] 3)).alloc (.cells #[.int .i64 0] 3)).alloc (.cells #[.int .i64 0] 24)

theorem boxes_four (w : World) (r : Nat) (v : Int) : Boxes4 (four w r v) w.heap.size r v 0 0 := by
  refine ⟨((((Lies.new w _ _).alloc _).alloc _).alloc _), ?_, ?_, ?_⟩
  · have := Lies.new (w.alloc (.cells #[.pointer (some ⟨r, 0, none⟩)] 23)) 3 #[.int .i64 v]
    rw [World.size_alloc] at this
    exact (this.alloc _).alloc _
  · have := Lies.new ((w.alloc (.cells #[.pointer (some ⟨r, 0, none⟩)] 23)).alloc (.cells #[.int .i64 v] 3)) 3 #[.int .i64 0]
    rw [World.size_alloc, World.size_alloc] at this
    exact this.alloc _
  · have := Lies.new (((w.alloc (.cells #[.pointer (some ⟨r, 0, none⟩)] 23)).alloc (.cells #[.int .i64 v] 3)).alloc (.cells #[.int .i64 0] 3)) 24 #[.int .i64 0]
    rw [World.size_alloc, World.size_alloc, World.size_alloc] at this
    exact this

theorem below_four (w : World) (r : Nat) (v : Int) : Below w.heap.size w (four w r v) :=
  ((((Below.refl _ w).alloc (Nat.le_refl _) _).alloc (by simp) _).alloc (by simp; omega) _).alloc (by simp; omega) _
theorem size_four (w : World) (r : Nat) (v : Int) : (four w r v).heap.size = w.heap.size + 4 := by simp

theorem Boxes4.keep {W W' : World} {b r B : Nat} {v x e : Int} {S : Nat → Prop} (h : Boxes4 W b r v x e) (hk : Keep B S W W') (hB : b + 1 + 1 + 1 < B) (hS : ∀ g, S g → g < b) : Boxes4 W' b r v x e :=
  ⟨h.b0.keep hk (by omega) (fun e => by have := hS _ e; omega), h.b1.keep hk (by omega) (fun e => by have := hS _ e; omega), h.b2.keep hk (by omega) (fun e => by have := hS _ e; omega), h.b3.keep hk (by omega) (fun e => by have := hS _ e; omega)⟩
theorem Boxes4.still {W W' : World} {b r : Nat} {v x e : Int} (h : Boxes4 W b r v x e) (hs : Still W W') : Boxes4 W' b r v x e := by
  obtain ⟨m, rfl⟩ := hs
  exact ⟨h.b0, h.b1, h.b2, h.b3⟩

theorem results_give {W : World} {b r : Nat} {v x e : Int} (h : Boxes4 W b r v x e) (tmps : Array Value) (h4 : tmps[4]?.getD undef = .pointer (some ⟨b + 1 + 1, 0, none⟩)) (h5 : tmps[5]?.getD undef = .pointer (some ⟨b + 1 + 1 + 1, 0, none⟩)) :
    (results Try.f9 tmps).run Try.prog W = .ok (.tuple #[.int .i64 x, .int .i64 e]) W := by
  have c2 := h.b2.cell 0
  have c3 := h.b3.cell 0
  simp at c2 c3
  simp [results, Try.results9, go_sem, h4, h5, c2, c3]

theorem Boxes4.set2 {W : World} {b r : Nat} {v x e : Int} (h : Boxes4 W b r v x e) (y d : Int) : Boxes4 ((W.setCell ⟨b + 1 + 1, 0, none⟩ (.int .i64 y)).setCell ⟨b + 1 + 1 + 1, 0, none⟩ (.int .i64 d)) b r v y d :=
  ⟨(h.b0.far (p := ⟨b + 1 + 1, 0, none⟩) (by show b ≠ b + 1 + 1; omega) _).far (p := ⟨b + 1 + 1 + 1, 0, none⟩) (by show b ≠ b + 1 + 1 + 1; omega) _,
   (h.b1.far (p := ⟨b + 1 + 1, 0, none⟩) (by show b + 1 ≠ b + 1 + 1; omega) _).far (p := ⟨b + 1 + 1 + 1, 0, none⟩) (by show b + 1 ≠ b + 1 + 1 + 1; omega) _,
   (h.b2.set 0 _).far (p := ⟨b + 1 + 1 + 1, 0, none⟩) (by simp) _,
   (h.b3.far (p := ⟨b + 1 + 1, 0, none⟩) (by simp) _).set 0 _⟩

set_option maxHeartbeats 1000000 in
theorem give_nil {w : World} {p : Option Addr} (hm : ∀ w', Below w.heap.size w w' → Calls Try.prog 26 #[.pointer p] w' fun e w'' => e = .returned (.bool false) ∧ w' = w'') (v : Int) :
    Calls Try.prog 9 #[.pointer p, .int .i64 v] w fun e w' => e = .returned (.tuple #[.int .i64 0, .int .i64 1]) ∧ Below w.heap.size w w' := by
  have b4 : Below w.heap.size w ((((w.alloc (.cells #[.pointer p] 23)).alloc (.cells #[.int .i64 v] 3)).alloc (.cells #[.int .i64 0] 3)).alloc (.cells #[.int .i64 0] 24)) :=
    ((((Below.refl _ w).alloc (Nat.le_refl _) _).alloc (by simp) _).alloc (by simp; omega) _).alloc (by simp; omega) _
  have HM := Lib.hid (hm _ b4)
  have HB := Lib.hid b4
  clear hm b4
  go_enter Try.func9, Try.ntmps9
  go_wp2_with (go_at_call 26; refine HM.out.mono ?_; rintro e w' ⟨rfl, rfl⟩)
  exact bodyPost_ret (v := .tuple #[.int .i64 0, .int .i64 1]) (by simp [results, Try.results9, go_sem]) rfl ⟨rfl, by
    have := HB.out
    exact (((((Below.refl _ w).alloc (Nat.le_refl _) _).alloc (by simp) _).alloc (by simp; omega) _).alloc (by simp; omega) _)⟩

set_option maxRecDepth 100000 in
set_option maxHeartbeats 1000000 in
theorem give_full {w : World} {S : Nat → Prop} {r N : Nat} {nx st : Int} {R : List (Int × Int)} (h : Rk w S r N nx st R) (hf : R.length = N) (v : Int) :
    Calls Try.prog 9 #[.pointer (some ⟨r, 0, none⟩), .int .i64 v] w fun e w' => e = .returned (.tuple #[.int .i64 0, .int .i64 4]) ∧ Below w.heap.size w w' := by
  have H := Lib.hid h
  have HF := Lib.hid hf
  clear h hf
  go_enter Try.func9, Try.ntmps9
  go_wp2_with fail
  have HR := Lib.hid (H.out.below (below_four w r v))
  refine (made_yes HR.out).mono ?_
  rintro e w' ⟨rfl, rfl⟩
  go_wp2_with fail
  refine (full_yes HR.out HF.out).mono ?_
  rintro e w2 ⟨rfl, hst⟩
  have hb := (boxes_four w r v).still hst
  have hB := (below_four w r v).trans (hst.below _)
  have c2 := hb.b2.cell 0
  have c3 := hb.b3.cell 0
  have f2 := hb.b2.frozen 0
  have f3 := hb.b3.frozen 0
  simp at c2 c3
  have HB := Lib.hid hB
  have HX := Lib.hid (hb.set2 0 4)
  clear hst hb hB HR
  go_wp2_with fail
  exact bodyPost_ret (v := .tuple #[.int .i64 0, .int .i64 4]) (results_give HX.out _ rfl rfl) rfl ⟨rfl, (HB.out.setCell (p := ⟨w.heap.size + 1 + 1, 0, none⟩) (by simp; omega) _).setCell (p := ⟨w.heap.size + 1 + 1 + 1, 0, none⟩) (by simp; omega) _⟩

end Go.Proofs.Ytcecdcdnjbndiaa.rack
