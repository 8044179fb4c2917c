/-
  Given for the seat's laws: both readers, the program's and the document's, side by side; a slice of the call's own whose bytes are counted up. No condition but those of the theorems.
-/
import Derived.Test.YtliajejgkinkjaaRefLine
import Derived.Test.YtliajejgkinkjaaBytePair
import Derived.Test.YtliajejgkinkjaaBytes
namespace Go.Proofs.Ytliajejgkinkjaa.model
open Go.RowKit mem reader plain
set_option linter.unusedVariables false

/-- a slice whose bytes are counted up -/
structure Bump (W wr : World) (A : Option Addr) (n : Nat) : Prop where
  keep : Keep W.heap.size (fun g => ∃ o, A = some ⟨g, o, none⟩) W wr
  cells : 0 < n → ∃ g cur, A = some ⟨g, 0, none⟩ ∧ Lies wr g 5 cur ∧ g < W.heap.size ∧ ∀ j, j < n → ∃ z, cur[j]? = some (.int .u8 z)

theorem bump_none (W : World) (A : Option Addr) : Bump W W A 0 := ⟨Keep.refl _ _ _, fun h => absurd h (by omega)⟩

theorem bump_start {W : World} {B n c : Nat} {A : Option Addr} {xs : List Int} (h : W.ownsRow B 5 1 (.slice A n c) n (B8 xs)) : Bump W W A n := by
  have hl : xs.length = n := by have := h.1; rw [B8_length] at this; omega
  refine ⟨Keep.refl _ _ _, fun hp => ?_⟩
  rcases h.2 with ⟨_, h0⟩ | ⟨g, cap, cur, hv, hB, hh, hle, _, hsz, htk⟩
  · omega
  · simp only [Value.slice.injEq] at hv
    obtain ⟨rfl, _, rfl⟩ := hv
    refine ⟨g, cur, rfl, hh, (Array.getElem?_eq_some_iff.1 hh).1, fun j hj => ?_⟩
    have e1 : (cur.toList.take (n * 1))[j]? = (B8 xs)[j]? := by rw [htk]
    rw [List.getElem?_take, if_pos (by omega)] at e1
    refine ⟨xs.getD j 0, ?_⟩
    have e2 : (B8 xs)[j]? = some (.int .u8 (xs.getD j 0)) := by
      rw [B8, List.getElem?_map, List.getD_eq_getElem?_getD, List.getElem?_eq_getElem (by omega)]; rfl
    rw [e2] at e1
    simpa using e1

theorem bump_round {W wr : World} {g n j : Nat} {cur : Array Value} {y : Int} (hk : Keep W.heap.size (fun g' => ∃ o, (some ⟨g, 0, none⟩ : Option Addr) = some ⟨g', o, none⟩) W wr) (hl : Lies wr g 5 cur) (hg : g < W.heap.size) (hc : ∀ j, j < n → ∃ z, cur[j]? = some (.int .u8 z)) :
    Bump W (wr.setCell ⟨g, j, none⟩ (.int .u8 y)) (some ⟨g, 0, none⟩) n := by
  refine ⟨hk.setCell (p := ⟨g, j, none⟩) (.inr ⟨0, rfl⟩) _, fun _ => ⟨g, _, rfl, hl.set j _, hg, fun i hi => ?_⟩⟩
  obtain ⟨z, hz⟩ := hc i hi
  by_cases hij : j = i
  · subst hij
    exact ⟨y, by rw [Array.getElem?_setIfInBounds_self_of_lt ((Array.getElem?_eq_some_iff.1 hz).1)]⟩
  · exact ⟨z, by rw [Array.getElem?_setIfInBounds_ne hij]; exact hz⟩

/-- what lies in no block below a base is kept below it -/
theorem Bump.below {W wr : World} {B n c : Nat} {A : Option Addr} {xs : List Int} (h : Bump W wr A n) (ho : W.ownsRow B 5 1 (.slice A n c) n (B8 xs)) (hB : B ≤ W.heap.size) : Below B W wr := by
  refine h.keep.below hB (fun k hk ⟨o, e⟩ => ?_)
  rcases ho.2 with ⟨hv, _⟩ | ⟨g, cap, cur, hv, hg, _⟩
  · simp only [Value.slice.injEq] at hv
    rw [hv.1] at e
    simp at e
  · simp only [Value.slice.injEq] at hv
    rw [hv.1] at e
    simp at e <;> omega

/-- BOTH READERS: they read the same bytes, and stand at the same place -/
structure Two (w : World) (B r : Nat) (A : Option Addr) (n c B' m : Nat) (A' : Option Addr) (c' : Nat) (xs : List Int) (k : Nat) : Prop where
  has : Has w B r A n c xs k
  mod : Mod w B' m A' n c' xs k
  pos : 0 < m

section
variable {w w1 w2 w3 : World} {B r : Nat} {A : Option Addr} {n c B' m : Nat} {A' : Option Addr} {c' : Nat} {xs : List Int} {k k' : Nat}

theorem two_ne (h : Has w B r A n c xs k) (hm : Mod w B' m A' n c' xs k') : r ≠ m := h.head.apart hm.head (by decide)

theorem Two.lts (h : Two w B r A n c B' m A' c' xs k) : r < w.heap.size ∧ m < w.heap.size ∧ 0 < w.heap.size := ⟨h.has.head.lt, h.mod.head.lt, h.has.mx.lt⟩

/-- blocks below a base lie as they lay, where both lie below it -/
theorem Two.base (h1 : Two w1 B r A n c B' m A' c' xs k) (h : Two w2 B r A n c B' m A' c' xs k') (hb : Below w1.heap.size w2 w3) : Two w3 B r A n c B' m A' c' xs k' :=
  ⟨h.has.keep (hb.block _ h1.lts.1) (fun g hg => hb.block _ (own_lt h1.has.own hg).2) (hb.block _ h1.lts.2.2), h.mod.keep (hb.block _ h1.lts.2.1) (fun g hg => hb.block _ (own_lt h1.mod.own hg).2), h.pos⟩

theorem Two.later (h : Two w B r A n c B' m A' c' xs k) (hb : Below w.heap.size w w1) : Two w1 B r A n c B' m A' c' xs k := h.base h hb

theorem Two.modAfter (h : Two w B r A n c B' m A' c' xs k) (hl : reader.Left w w1 B r A n c xs k') : Mod w1 B' m A' n c' xs k := by
  refine h.mod.keep (hl.keep.block _ h.lts.2.1 (two_ne h.has h.mod).symm) (fun g hg => hl.keep.block _ (own_lt h.mod.own hg).2 ?_)
  intro e
  subst e
  exact own_ne h.mod.own h.has.head (by decide) hg

theorem Two.hasAfter (hh : Has w1 B r A n c xs k') (hm : Mod w1 B' m A' n c' xs k) (hp : 0 < m) (hl : MLeft w1 w2 B' m A' n c' xs k') : Two w2 B r A n c B' m A' c' xs k' := by
  refine ⟨hh.keep (hl.keep.block _ hh.head.lt (two_ne hh hm)) (fun g hg => hl.keep.block _ (own_lt hh.own hg).2 ?_) (hl.keep.block _ hh.mx.lt (by omega)), hl.has, hp⟩
  intro e
  subst e
  exact own_ne hh.own hm.head (by decide) hg

/-- what an act on both leaves -/
structure Done (w w' : World) (B r : Nat) (A : Option Addr) (n c B' m : Nat) (A' : Option Addr) (c' : Nat) (xs : List Int) : Prop where
  ex : ∃ k', Two w' B r A n c B' m A' c' xs k'
  keep : Keep w.heap.size (fun g => g = r ∨ g = m) w w'

theorem Two.done {W : World} (hW : Below w.heap.size w w1) (h : Two w1 B r A n c B' m A' c' xs k) (hl : reader.Left w1 w2 B r A n c xs k') (hml : MLeft w2 w3 B' m A' n c' xs k') (hb : Below w1.heap.size w3 W) : Done w W B r A n c B' m A' c' xs := by
  have ht := Two.hasAfter hl.has (h.modAfter hl) h.pos hml
  refine ⟨⟨k', h.base ht hb⟩, ?_⟩
  have k1 : Keep w.heap.size (fun g => g = r ∨ g = m) w w1 := Keep.of_below hW _
  have k2 : Keep w.heap.size (fun g => g = r ∨ g = m) w1 w2 := hl.keep.mono hW.size (fun _ _ e => .inl e)
  have k3 : Keep w.heap.size (fun g => g = r ∨ g = m) w2 w3 := hml.keep.mono (Nat.le_trans hW.size hl.keep.size) (fun _ _ e => .inr e)
  have k4 : Keep w.heap.size (fun g => g = r ∨ g = m) w3 W := Keep.of_below (hb.mono hW.size) _
  exact ((k1.trans k2).trans k3).trans k4
end

end Go.Proofs.Ytliajejgkinkjaa.model
