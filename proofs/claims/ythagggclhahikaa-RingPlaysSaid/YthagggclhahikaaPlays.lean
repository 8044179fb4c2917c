/-
  Given for 'Rows.RingPlaysSaid': the walk of RingPlays: it returns true at every input, and turns nothing that was there. No condition.
-/
import Derived.Test.YthagggclhahikaaModel
import Derived.Deep.RegionWith
import Derived.Deep.LoopGhost
import Derived.Deep.DeepCutAuto
import Derived.Deep.CutBlock
namespace Go.Proofs.Ythagggclhahikaa.plays
open Go.RowKit mem ring plain put peek same api awake two acts order model
set_option linter.unusedVariables false

/-- what holds of the two rings, and of the act's box -/
structure Pl (w W : World) (b s q N : Nat) (A : Option Addr) (c : Nat) (xs ys : List Int) : Prop where
  has : Has W b s N xs
  mod : Mod W w.heap.size q N A c ys
  lo : w.heap.size ≤ b ∧ w.heap.size ≤ s ∧ w.heap.size ≤ q
  ap : q ≠ b ∧ q ≠ s
  row : ∀ g, rowOf A = some g → g ≠ b ∧ g ≠ s
  below : Below w.heap.size w W

section
variable {w W W' : World} {b s q N c c' : Nat} {A A' : Option Addr} {xs xs' ys ys' : List Int}
theorem Pl.far {S : Nat → Prop} (h : Pl w W b s q N A c xs ys) (hk : Keep W.heap.size S W W') (h1 : ¬ S b ∧ ¬ S s ∧ ¬ S q) (h2 : ∀ g, rowOf A = some g → ¬ S g) (h3 : ∀ g, g < w.heap.size → ¬ S g) : Pl w W' b s q N A c xs ys :=
  ⟨h.has.keep hk h.has.lt.1 h.has.lt.2 h1.1 h1.2.1, h.mod.keep hk h1.2.2 h2, h.lo, h.ap, h.row, h.below.trans (hk.below h.below.size h3)⟩
theorem Pl.later (h : Pl w W b s q N A c xs ys) (hb : Below W.heap.size W W') : Pl w W' b s q N A c xs ys :=
  h.far (Keep.of_below hb (fun _ => False)) ⟨fun hf => hf, fun hf => hf, fun hf => hf⟩ (fun _ _ hf => hf) (fun _ _ hf => hf)
theorem Pl.ringStep (h : Pl w W b s q N A c xs ys) (hh : Has W' b s N xs') (hk : Keep W.heap.size (fun g => g = b ∨ g = s) W W') : Pl w W' b s q N A c xs' ys := by
  have h1 := h.lo
  have h2 := h.ap
  exact ⟨hh, h.mod.keep hk (by omega) (fun g e hf => by have := h.row g e; omega), h.lo, h.ap, h.row, h.below.trans (hk.below h.below.size (fun g hg hf => by omega))⟩
theorem Pl.ringStep1 (h : Pl w W b s q N A c xs ys) (hh : Has W' b s N xs') (hk : Keep W.heap.size (fun g => g = b) W W') : Pl w W' b s q N A c xs' ys := h.ringStep hh (hk.mono (Nat.le_refl _) (fun k _ e => .inl e))
theorem Pl.modStep (h : Pl w W b s q N A c xs ys) (hm : Mod W' w.heap.size q N A' c' ys') (hk : Keep W.heap.size (fun g => g = q ∨ rowOf A = some g) W W') (hr : ∀ g, rowOf A' = some g → rowOf A = some g ∨ W.heap.size ≤ g) : Pl w W' b s q N A' c' xs ys' := by
  have h1 := h.lo
  have h2 := h.ap
  have h3 := h.has.lt
  refine ⟨h.has.keep hk h3.1 h3.2 (fun e => ?_) (fun e => ?_), hm, h.lo, h.ap, fun g e => ?_, h.below.trans (hk.below h.below.size (fun g hg hf => ?_))⟩
  · rcases e with e | e
    · omega
    · have := h.row b e; omega
  · rcases e with e | e
    · omega
    · have := h.row s e; omega
  · rcases hr g e with e | e
    · exact h.row g e
    · omega
  · rcases hf with e | e
    · omega
    · have := h.mod.rowLt e; omega
end

/-- a slice whose bytes are counted up -/
def Bump (W wr : World) (A : Option Addr) (n : Nat) : Prop :=
  Keep W.heap.size (fun g => rowOf A = some g) W wr ∧ (0 < n → ∃ g cur, A = some ⟨g, 0, none⟩ ∧ Lies wr g 5 cur ∧ g < W.heap.size ∧ ∀ j, j < n → ∃ z, cur[j]? = some (.int .u8 z))

theorem bump_start {W : World} {B n c : Nat} {A : Option Addr} {xs : List Int} (h : W.ownsRow B 5 1 (.slice A n c) n (B8 xs)) : Bump W W A n := by
  have hl : xs.length = n := by have := h.1; rw [B8_length] at this; omega
  refine ⟨Keep.refl _ _ _, fun hp => ?_⟩
  rcases h.2 with ⟨_, h0⟩ | ⟨g, cap, cur, hv, hB, hh, hle, _, hsz, htk⟩
  · omega
  · simp only [Value.slice.injEq] at hv
    obtain ⟨rfl, _, rfl⟩ := hv
    refine ⟨g, cur, rfl, hh, (Array.getElem?_eq_some_iff.1 hh).1, fun j hj => ?_⟩
    have e1 : (cur.toList.take (n * 1))[j]? = (B8 xs)[j]? := by rw [htk]
    rw [List.getElem?_take, if_pos (by omega)] at e1
    refine ⟨xs.getD j 0, ?_⟩
    have e2 : (B8 xs)[j]? = some (.int .u8 (xs.getD j 0)) := by
      rw [B8, List.getElem?_map, List.getD_eq_getElem?_getD, List.getElem?_eq_getElem (by omega)]; rfl
    rw [e2] at e1
    simpa using e1

theorem bump_round {W wr : World} {g n j : Nat} {cur : Array Value} {y : Int} (hk : Keep W.heap.size (fun g' => rowOf (some ⟨g, 0, none⟩) = some g') W wr) (hl : Lies wr g 5 cur) (hg : g < W.heap.size) (hc : ∀ j, j < n → ∃ z, cur[j]? = some (.int .u8 z)) :
    Bump W (wr.setCell ⟨g, j, none⟩ (.int .u8 y)) (some ⟨g, 0, none⟩) n := by
  refine ⟨hk.setCell (p := ⟨g, j, none⟩) (.inr rfl) _, fun _ => ⟨g, _, rfl, hl.set j _, hg, fun i hi => ?_⟩⟩
  obtain ⟨z, hz⟩ := hc i hi
  by_cases hij : j = i
  · subst hij
    exact ⟨y, by rw [Array.getElem?_setIfInBounds_self_of_lt ((Array.getElem?_eq_some_iff.1 hz).1)]⟩
  · exact ⟨z, by rw [Array.getElem?_setIfInBounds_ne hij]; exact hz⟩

theorem Pl.bumped {w W W' : World} {b s q N c n B : Nat} {A A' : Option Addr} {xs ys : List Int} (h : Pl w W b s q N A c xs ys) (hk : Keep W.heap.size (fun g => rowOf A' = some g) W W') (hB : ∀ g, rowOf A' = some g → B ≤ g) (h1 : b < B ∧ s < B ∧ q < B) (h2 : ∀ g, rowOf A = some g → rowOf A' ≠ some g) (h3 : w.heap.size ≤ B) : Pl w W' b s q N A c xs ys :=
  h.far hk ⟨fun e => by have := hB _ e; omega, fun e => by have := hB _ e; omega, fun e => by have := hB _ e; omega⟩ (fun g e e' => h2 g e e') (fun g hg e => by have := hB _ e; omega)

/-- what holds inside a round: the two rings, and the act's box -/
structure St (w W : World) (b s q N X : Nat) (x : ActD) (A : Option Addr) (c : Nat) (xs ys : List Int) : Prop where
  pl : Pl w W b s q N A c xs ys
  box : Lies W X 33 #[.int .u8 x.kind, .int .i64 x.n, .slice x.A x.l x.c]
  xlo : w.heap.size ≤ X
  xne : X ≠ b ∧ X ≠ s ∧ X ≠ q
  xrow : rowOf A ≠ some X

/-- a slice that was told, and is the caller's own -/
structure Own (w W : World) (b s q X : Nat) (A : Option Addr) (B : Nat) (D : Option Addr) (n cD : Nat) (bs : List Int) : Prop where
  own : W.ownsRow B 5 1 (.slice D n cD) n (B8 bs)
  lo : b < B ∧ s < B ∧ q < B ∧ X < B ∧ w.heap.size ≤ B
  sep : ∀ g, rowOf A = some g → rowOf D ≠ some g

section
variable {w W W' : World} {b s q N X c c' B n cD : Nat} {x : ActD} {A A' D : Option Addr} {xs xs' ys ys' bs : List Int}
theorem St.far {S : Nat → Prop} (h : St w W b s q N X x A c xs ys) (hk : Keep W.heap.size S W W') (h1 : ¬ S b ∧ ¬ S s ∧ ¬ S q ∧ ¬ S X) (h2 : ∀ g, rowOf A = some g → ¬ S g) (h3 : ∀ g, g < w.heap.size → ¬ S g) : St w W' b s q N X x A c xs ys :=
  ⟨h.pl.far hk ⟨h1.1, h1.2.1, h1.2.2.1⟩ h2 h3, h.box.keep hk h.box.lt h1.2.2.2, h.xlo, h.xne, h.xrow⟩
theorem St.later (h : St w W b s q N X x A c xs ys) (hb : Below W.heap.size W W') : St w W' b s q N X x A c xs ys :=
  ⟨h.pl.later hb, h.box.below hb h.box.lt, h.xlo, h.xne, h.xrow⟩
theorem St.ringStep (h : St w W b s q N X x A c xs ys) (hh : Has W' b s N xs') (hk : Keep W.heap.size (fun g => g = b ∨ g = s) W W') : St w W' b s q N X x A c xs' ys :=
  ⟨h.pl.ringStep hh hk, h.box.keep hk h.box.lt (fun e => by have := h.xne; omega), h.xlo, h.xne, h.xrow⟩
theorem St.ringStep1 (h : St w W b s q N X x A c xs ys) (hh : Has W' b s N xs') (hk : Keep W.heap.size (fun g => g = b) W W') : St w W' b s q N X x A c xs' ys :=
  h.ringStep hh (hk.mono (Nat.le_refl _) (fun k _ e => .inl e))
theorem St.modStep (h : St w W b s q N X x A c xs ys) (hm : Mod W' w.heap.size q N A' c' ys') (hk : Keep W.heap.size (fun g => g = q ∨ rowOf A = some g) W W') (hr : ∀ g, rowOf A' = some g → rowOf A = some g ∨ W.heap.size ≤ g) : St w W' b s q N X x A' c' xs ys' :=
  ⟨h.pl.modStep hm hk hr, h.box.keep hk h.box.lt (fun e => by rcases e with e | e; exact h.xne.2.2 e; exact h.xrow e), h.xlo, h.xne, fun e => by
    rcases hr X e with e' | e'
    · exact h.xrow e'
    · have := h.box.lt; omega⟩
theorem St.c1 (h : St w W b s q N X x A c xs ys) : W.cell? ⟨X, 1, none⟩ = some (.int .i64 x.n) := h.box.cell 1
theorem St.c2 (h : St w W b s q N X x A c xs ys) : W.cell? ⟨X, 2, none⟩ = some (.slice x.A x.l x.c) := h.box.cell 2

theorem Own.ge (o : Own w W b s q X A B D n cD bs) {g : Nat} (e : rowOf D = some g) : B ≤ g := by rw [← rowOf_eq D n cD] at e; exact own_ge o.own e
theorem Own.lt (o : Own w W b s q X A B D n cD bs) {g : Nat} (e : rowOf D = some g) : g < W.heap.size := by rw [← rowOf_eq D n cD] at e; exact own_lt o.own e
theorem Own.far {S : Nat → Prop} (o : Own w W b s q X A B D n cD bs) (hk : Keep W.heap.size S W W') (h : ∀ g, rowOf D = some g → ¬ S g) : Own w W' b s q X A B D n cD bs :=
  ⟨own_kept o.own hk (Nat.le_refl _) (fun g e => h g (by rw [rowOf_eq] at e; exact e)), o.lo, o.sep⟩
theorem Own.later (o : Own w W b s q X A B D n cD bs) (hb : Below W.heap.size W W') : Own w W' b s q X A B D n cD bs :=
  o.far (Keep.of_below hb (fun _ => False)) (fun _ _ hf => hf)
theorem Own.ring (o : Own w W b s q X A B D n cD bs) (hk : Keep W.heap.size (fun g => g = b ∨ g = s) W W') : Own w W' b s q X A B D n cD bs :=
  o.far hk (fun g e hf => by have := o.ge e; have := o.lo; omega)
theorem Own.mod (o : Own w W b s q X A B D n cD bs) (hk : Keep W.heap.size (fun g => g = q ∨ rowOf A = some g) W W') (hr : ∀ g, rowOf A' = some g → rowOf A = some g ∨ W.heap.size ≤ g) : Own w W' b s q X A' B D n cD bs := by
  refine ⟨(o.far hk (fun g e hf => ?_)).own, o.lo, fun g e e' => ?_⟩
  · rcases hf with hf | hf
    · have := o.ge e; have := o.lo; omega
    · exact o.sep g hf e
  · rcases hr g e with h | h
    · exact o.sep g h e'
    · have := o.lt e'; omega
theorem Own.start (h : St w W b s q N X x A c xs ys) (ho : W'.ownsRow W.heap.size 5 1 (.slice D n cD) n (B8 bs)) : Own w W' b s q X A W.heap.size D n cD bs := by
  have l1 := h.pl.has.lt
  have l2 := h.pl.mod.head.lt
  have l3 := h.box.lt
  refine ⟨ho, ⟨l1.1, l1.2, l2, l3, h.pl.below.size⟩, fun g e e' => ?_⟩
  have a1 := h.pl.mod.rowLt e
  rw [← rowOf_eq D n cD] at e'
  have := own_ge ho e'
  omega
theorem St.bumped {W' : World} (h : St w W b s q N X x A c xs ys) (o : Own w W b s q X A B D n cD bs) (hk : Bump W W' D n) : St w W' b s q N X x A c xs ys := by
  have l := o.lo
  exact h.far hk.1 ⟨fun e => by have := o.ge e; omega, fun e => by have := o.ge e; omega, fun e => by have := o.ge e; omega, fun e => by have := o.ge e; omega⟩ (fun g e e' => o.sep g e e') (fun g hg e => by have := o.ge e; omega)

/-- two slices that hold the same are the same -/
theorem same_own {okB : Nat → Prop} {E : Option Addr} {cE : Nat} (o : Own w W b s q X A B D n cD bs) (h' : Src W okB E n cE bs) :
    Calls Try.prog 14 #[.slice D n cD, .slice E n cE] W fun e w' => e = .returned (.bool true) ∧ Still W w' := by
  have := same_has W (Src.of_own o.own) h'
  rwa [sameB_refl] at this

theorem copy_st (h : St w W b s q N X x A c xs xs) (hs : Src w (fun g => g < w.heap.size) x.A x.l x.c bs) (hx : x.l ≤ 300) :
    Calls Try.prog 11 #[.slice x.A x.l x.c] W fun e W2 => ∃ D cD, e = .returned (.slice D x.l cD) ∧ St w W2 b s q N X x A c xs xs ∧ Own w W2 b s q X A W.heap.size D x.l cD bs := by
  refine (copy_any (hs.keep (fun g hg => h.pl.below.block g hg)) (by omega)).mono ?_
  rintro e w' ⟨D, cD, rfl, ho, hb⟩
  exact ⟨D, cD, rfl, h.later hb, Own.start h ho⟩

def PutEnd (w : World) (b s q N X : Nat) (x : ActD) (B : Nat) (D : Option Addr) (cD : Nat) (bs : List Int) (e : Ending) (W5 : World) : Prop :=
  e = .returned (.bool true) ∧ ∃ A c xs, St w W5 b s q N X x A c xs xs ∧ Own w W5 b s q X A B D x.l cD bs

theorem put_st (h : St w W b s q N X x A c xs xs) (hs : Src w (fun g => g < w.heap.size) x.A x.l x.c bs) (hx : x.l ≤ 300) (o : Own w W b s q X A B D x.l cD bs) (k : Nat) (hk : k = min x.l (N - xs.length)) :
    Calls Try.prog 12 #[.pointer (some ⟨b, 0, none⟩), .slice D x.l cD] W fun e W3 => e = .returned (.int .i64 (k : Int)) ∧ W3.cell? ⟨X, 2, none⟩ = some (.slice x.A x.l x.c) ∧
      Calls Try.prog 13 #[.pointer (some ⟨q, 0, none⟩), .slice x.A x.l x.c] W3 fun e W4 => e = .returned (.int .i64 (k : Int)) ∧ W4.cell? ⟨X, 2, none⟩ = some (.slice x.A x.l x.c) ∧
        Calls Try.prog 14 #[.slice D x.l cD, .slice x.A x.l x.c] W4 (PutEnd w b s q N X x B D cD bs) := by
  have fit := h.pl.has.fits
  have lo := o.lo
  refine (put_has W h.pl.has ((Src.of_own o.own).weak (fun g hg => ⟨hg.2, by omega⟩))).mono ?_
  rintro e W3 ⟨rfl, hh, hk3⟩
  rw [← hk] at hh ⊢
  have h3 := h.ringStep hh hk3
  have o3 := o.ring hk3
  have fit3 := h3.pl.has.fits
  refine ⟨rfl, h3.c2, ?_⟩
  have hm := mput_any h3.pl.mod (hs.keep (fun g hg => h3.pl.below.block g hg)) (fun g hg => ⟨Nat.lt_of_lt_of_le hg h3.pl.below.size, by have := h3.pl.lo; omega, fun e => by have := h3.pl.mod.rowLt e; omega⟩) (by omega) (by omega) (by omega) h3.pl.below.size
  rw [← hk] at hm
  refine hm.mono ?_
  rintro e W4 ⟨rfl, A4, c4, hm4, hk4, hr4⟩
  have h4 := h3.modStep hm4 hk4 hr4
  have o4 := o3.mod hk4 hr4
  refine ⟨rfl, h4.c2, ?_⟩
  refine (same_own o4 (hs.keep (fun g hg => h4.pl.below.block g hg))).mono ?_
  rintro e W5 ⟨rfl, hst⟩
  exact ⟨rfl, A4, c4, _, h4.later (hst.below _), o4.later (hst.below _)⟩

def TakeEnd (w : World) (b s q N X : Nat) (x : ActD) (B m : Nat) (D : Option Addr) (cD : Nat) (e : Ending) (W5 : World) : Prop :=
  e = .returned (.bool true) ∧ ∃ A c xs bs, St w W5 b s q N X x A c xs xs ∧ Own w W5 b s q X A B D m cD bs

theorem take_st (h : St w W b s q N X x A c xs xs) (m : Nat) (hm : kOf xs.length x.n = m) :
    Calls Try.prog 15 #[.pointer (some ⟨b, 0, none⟩), .int .i64 x.n] W fun e W3 => ∃ D cD, e = .returned (.slice D m cD) ∧ W3.cell? ⟨X, 1, none⟩ = some (.int .i64 x.n) ∧
      Calls Try.prog 16 #[.pointer (some ⟨q, 0, none⟩), .int .i64 x.n] W3 fun e W4 => ∃ E cE, e = .returned (.slice E m cE) ∧
        Calls Try.prog 14 #[.slice D m cD, .slice E m cE] W4 (TakeEnd w b s q N X x W.heap.size m D cD) := by
  have fit := h.pl.has.fits
  refine (take_has W h.pl.has x.n).mono ?_
  rintro e W3 ⟨D, cD, rfl, ho, hh, hk3⟩
  rw [hm] at ho hh ⊢
  have h3 := h.ringStep1 hh hk3
  have o3 := Own.start h ho
  refine ⟨D, cD, rfl, h3.c1, ?_⟩
  have ht := mtake_any h3.pl.mod h3.pl.below.size (by omega) x.n
  rw [hm] at ht
  refine ht.mono ?_
  rintro e W4 ⟨E, cE, rfl, ho4, A4, c4, hm4, hk4, hr4⟩
  have hr4' : ∀ g, rowOf A4 = some g → rowOf A = some g ∨ W3.heap.size ≤ g := fun g e => by
    rcases hr4 g e with h1 | h1
    · exact .inr (Nat.le_trans hk4.size h1)
    · exact .inr h1.1
  have hk4' := hk4.mono (Nat.le_refl _) (S' := fun g => g = q ∨ rowOf A = some g) (fun k _ e => .inl e)
  have h4 := h3.modStep hm4 hk4' hr4'
  have o4 := o3.mod hk4' hr4'
  refine ⟨E, cE, rfl, (same_own o4 (Src.of_own ho4)).mono ?_⟩
  rintro e W5 ⟨rfl, hst⟩
  exact ⟨rfl, A4, c4, _, _, h4.later (hst.below _), o4.later (hst.below _)⟩

def SkipEnd (w : World) (b s q N X : Nat) (x : ActD) (r : Int) (e : Ending) (W5 : World) : Prop :=
  e = .returned (.int .i64 r) ∧ ∃ A c xs, St w W5 b s q N X x A c xs xs

theorem skip_st_no (h : St w W b s q N X x A c xs xs) (hn : x.n < 0 ∨ (xs.length : Int) < x.n) :
    Calls Try.prog 17 #[.pointer (some ⟨b, 0, none⟩), .int .i64 x.n] W fun e W3 => e = .returned (.int .i64 2) ∧ W3.cell? ⟨X, 1, none⟩ = some (.int .i64 x.n) ∧
      Calls Try.prog 18 #[.pointer (some ⟨q, 0, none⟩), .int .i64 x.n] W3 (SkipEnd w b s q N X x 2) := by
  refine (skip_no W h.pl.has x.n hn).mono ?_
  rintro e W3 ⟨rfl, rfl⟩
  refine ⟨rfl, h.c1, (mskip_no h.pl.mod x.n hn).mono ?_⟩
  rintro e W4 ⟨rfl, rfl⟩
  exact ⟨rfl, A, c, xs, h⟩

theorem skip_st_yes (h : St w W b s q N X x A c xs xs) (hn : 0 ≤ x.n) (hn2 : x.n ≤ (xs.length : Int)) :
    Calls Try.prog 17 #[.pointer (some ⟨b, 0, none⟩), .int .i64 x.n] W fun e W3 => e = .returned (.int .i64 0) ∧ W3.cell? ⟨X, 1, none⟩ = some (.int .i64 x.n) ∧
      Calls Try.prog 18 #[.pointer (some ⟨q, 0, none⟩), .int .i64 x.n] W3 (SkipEnd w b s q N X x 0) := by
  have fit := h.pl.has.fits
  obtain ⟨k, hk⟩ : ∃ k : Nat, x.n = (k : Int) := ⟨x.n.toNat, by omega⟩
  have hsk := skip_yes W h.pl.has k (by omega)
  rw [← hk] at hsk
  refine hsk.mono ?_
  rintro e W3 ⟨rfl, hh, hk3⟩
  have h3 := h.ringStep1 hh hk3
  refine ⟨rfl, h3.c1, ?_⟩
  have hms := mskip_yes h3.pl.mod h3.pl.below.size (by omega) k (by omega)
  rw [← hk] at hms
  refine hms.mono ?_
  rintro e W4 ⟨rfl, A4, c4, hm4, hk4, hr4⟩
  exact ⟨rfl, A4, c4, _, h3.modStep hm4 (hk4.mono (Nat.le_refl _) (fun k _ e => .inl e)) (fun g e => .inr (hr4 g e))⟩

theorem peek_st (h : St w W b s q N X x A c xs xs) (m : Nat) (hm : kOf xs.length x.n = m) :
    Calls Try.prog 19 #[.pointer (some ⟨b, 0, none⟩), .int .i64 x.n] W fun e W3 => ∃ D cD, e = .returned (.slice D m cD) ∧ W3.cell? ⟨X, 1, none⟩ = some (.int .i64 x.n) ∧
      Calls Try.prog 20 #[.pointer (some ⟨q, 0, none⟩), .int .i64 x.n] W3 fun e W4 => ∃ E cE, e = .returned (.slice E m cE) ∧
        Calls Try.prog 14 #[.slice D m cD, .slice E m cE] W4 (TakeEnd w b s q N X x W.heap.size m D cD) := by
  have fit := h.pl.has.fits
  have hp := peek_has W h.pl.has x.n
  rw [hm] at hp
  refine hp.mono ?_
  rintro e W3 ⟨D, cD, rfl, ho, hb⟩
  have h3 := h.later hb
  have o3 := Own.start h ho
  refine ⟨D, cD, rfl, h3.c1, ?_⟩
  have ht := mpeek_any h3.pl.mod x.n (by omega)
  rw [hm] at ht
  refine ht.mono ?_
  rintro e W4 ⟨E, cE, rfl, ho4, hb4⟩
  have h4 := h3.later hb4
  have o4 := o3.later hb4
  refine ⟨E, cE, rfl, (same_own o4 (Src.of_own ho4)).mono ?_⟩
  rintro e W5 ⟨rfl, hst⟩
  exact ⟨rfl, A, c, xs, _, h4.later (hst.below _), o4.later (hst.below _)⟩

theorem last_st (h : Pl w W b s q N A c xs xs) (L : Nat) (hL : xs.length = L) :
    Calls Try.prog 19 #[.pointer (some ⟨b, 0, none⟩), .int .i64 (N : Int)] W fun e W3 => ∃ D cD, e = .returned (.slice D L cD) ∧ W3.cell? ⟨q, 1, none⟩ = some (.slice A L c) ∧
      Calls Try.prog 14 #[.slice D L cD, .slice A L c] W3 fun e W4 => e = .returned (.bool true) ∧ W4.cell? ⟨q, 1, none⟩ = some (.slice A L c) ∧ Pl w W4 b s q N A c xs xs ∧
        (Calls Try.prog 21 #[.pointer (some ⟨b, 0, none⟩)] W4 fun e w' => e = .returned (.int .i64 (L : Int)) ∧ W4 = w') ∧
        (Calls Try.prog 22 #[.pointer (some ⟨b, 0, none⟩)] W4 fun e w' => e = .returned (.int .i64 ((N : Int) - (L : Int))) ∧ W4 = w') ∧
        (Calls Try.prog 23 #[.pointer (some ⟨b, 0, none⟩)] W4 fun e w' => e = .returned (.int .i64 (N : Int)) ∧ W4 = w') := by
  have fit := h.has.fits
  have hp := peek_has W h.has (N : Int)
  have e1 : kOf xs.length (N : Int) = L := by rw [kOf_nat]; omega
  rw [e1] at hp
  refine hp.mono ?_
  rintro e W3 ⟨D, cD, rfl, ho, hb⟩
  have h3 := h.later hb
  have c3 : W3.cell? ⟨q, 1, none⟩ = some (.slice A xs.length c) := h3.mod.head.cell 1
  rw [hL] at c3
  refine ⟨D, cD, rfl, c3, ?_⟩
  have s3 := h3.mod.src
  have ht : xs.take L = xs := by rw [← hL]; exact List.take_length
  have hsm := same_has W3 (Src.of_own ho) s3
  rw [ht, sameB_refl, hL] at hsm
  refine hsm.mono ?_
  rintro e W4 ⟨rfl, hst⟩
  have h4 := h3.later (hst.below _)
  have c4 : W4.cell? ⟨q, 1, none⟩ = some (.slice A xs.length c) := h4.mod.head.cell 1
  rw [hL] at c4
  refine ⟨rfl, c4, h4, ?_, ?_, ?_⟩
  · have := len_has W4 h4.has
    rwa [hL] at this
  · have := room_has W4 h4.has
    rw [hL] at this
    rwa [Int.ofNat_sub (by omega)] at this
  · exact size_has W4 h4.has
end

end Go.Proofs.Ythagggclhahikaa.plays
