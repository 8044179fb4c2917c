/-
  Given for the seat's laws: values as they lie one behind the other, rows of the call's own, literals. No condition but those of the theorems.
-/
import Derived.Test.YtpidjekabnnmcaaWPure
import Derived.WalkKit
import Derived.WalkSpells
import Derived.WalkLawsBesides
import Derived.Below
import Derived.Laws.AppendOwn
import Derived.Laws.OwnMore
import Derived.Laws.BitsAllLaws
import Derived.Deep.AppendLies
import Derived.Deep.QuietTactic
import Derived.Deep.CutBlock
import Derived.Deep.DeepCutAuto
import Derived.BigQuiet
import Derived.BigRegion
import Derived.StillTailTactics
import Derived.RegionTactic
import Derived.Lib.Hide
import Derived.IntWalk
import Derived.Outline
import Derived.WalkMore
import Derived.OwnWalk
namespace Go.Proofs.Ytpidjekabnnmcaa.wn
open Go.RowKit mem
set_option linter.unusedVariables false

theorem cell_lt {w : World} {p : Addr} {v : Value} (h : w.cell? p = some v) : p.block < w.heap.size := World.block_lt_of_cell? _ _ h
theorem lit_cell (w : World) (cs : Array Value) (t : TypeId) (fz : Nat × Nat) (j : Nat) : (w.alloc (.cells cs t fz)).cell? ⟨w.heap.size, j, none⟩ = cs[j]? := by
  have h : (w.alloc (.cells cs t fz)).heap[w.heap.size]? = some (.cells cs t fz) := heap_alloc_new w _
  unfold World.cell?
  rw [h]
  rfl
def True_ (w : World) (e : Ending) (w' : World) : Prop := e = .returned (.bool true) ∧ Below w.heap.size w w'
/-- what a call gives, behind a name -/
structure Bx (p : Prop) : Prop where
  out : p

/-- values as they lie one behind the other, in a block that ok lets in -/
structure RowAt (w : World) (ok : Nat → Prop) (A : Option Addr) (vs : List Value) : Prop where
  ex : 0 < vs.length → ∃ g off, A = some ⟨g, off, none⟩ ∧ ok g ∧ ∀ (j : Nat) (v : Value), vs[j]? = some v → w.cell? ⟨g, off + j, none⟩ = some v
section
variable {w w' : World} {ok ok' : Nat → Prop} {A : Option Addr} {vs : List Value}
theorem RowAt.keep (h : RowAt w ok A vs) (hk : ∀ g, ok g → w'.heap[g]? = w.heap[g]?) : RowAt w' ok A vs := ⟨fun hp => by
  obtain ⟨g, off, e, ho, hc⟩ := h.ex hp
  exact ⟨g, off, e, ho, fun j v hv => (World.cell?_of_block (hk g ho)).trans (hc j v hv)⟩⟩
theorem RowAt.weak (h : RowAt w ok A vs) (hk : ∀ g, ok g → ok' g) : RowAt w ok' A vs := ⟨fun hp => by
  obtain ⟨g, off, e, ho, hc⟩ := h.ex hp
  exact ⟨g, off, e, hk g ho, hc⟩⟩
theorem RowAt.below {B : Nat} (h : RowAt w ok A vs) (hb : Below B w w') (hg : ∀ g, ok g → g < B) : RowAt w' ok A vs := h.keep fun g hk => hb.block g (hg g hk)
theorem RowAt.cell (h : RowAt w ok A vs) {j : Nat} {v : Value} (hv : vs[j]? = some v) : ∃ g off, A = some ⟨g, off, none⟩ ∧ ok g ∧ w.cell? ⟨g, off + j, none⟩ = some v := by
  obtain ⟨g, off, e, ho, hc⟩ := h.ex (by have := (List.getElem?_eq_some_iff.1 hv).1; omega)
  exact ⟨g, off, e, ho, hc j v hv⟩
theorem RowAt.of_lies {g : Nat} {t : TypeId} {cs : Array Value} (h : Lies w g t cs) (ho : ok g) (hv : cs.toList = vs) : RowAt w ok (some ⟨g, 0, none⟩) vs := ⟨fun _ => ⟨g, 0, rfl, ho, fun j v hj => by
  rw [Nat.zero_add, h.cell]
  rw [← hv] at hj
  simpa using hj⟩⟩
/-- a row of the call's own -/
theorem RowAt.of_own {B : Nat} {t : TypeId} {n c : Nat} (h : w.ownsRow B t 1 (.slice A n c) n vs) : RowAt w (fun g => B ≤ g ∧ g < w.heap.size ∧ (Value.slice A n c).ownBlock = some g) A vs := ⟨fun hp => by
  have hl := h.1
  rcases h.2 with ⟨hv, hn⟩ | ⟨g, cap, cur, hv, hb, hh, hnc, hm, hs, ht⟩
  · subst hn; simp at hl; subst hl; simp at hp
  · simp only [Value.slice.injEq] at hv
    obtain ⟨rfl, _, rfl⟩ := hv
    refine ⟨g, 0, rfl, ⟨hb, (Array.getElem?_eq_some_iff.1 hh).1, rfl⟩, fun j v hj => ?_⟩
    rw [← ht, List.getElem?_take] at hj
    split at hj
    · simp [World.cell?, hh, Nat.zero_add]
      simpa using hj
    · cases hj⟩
end
/-! ### rows of the call's own -/
theorem rown_same {w w' : World} {B : Nat} {v : Value} {e : TypeId} {sz k : Nat} {xs : List Value} (h : w.ownsRow B e sz v k xs) (hk : ∀ g, v.ownBlock = some g → w'.heap[g]? = w.heap[g]?) : w'.ownsRow B e sz v k xs := by
  refine ⟨h.1, ?_⟩
  rcases h.2 with h0 | ⟨g, cap, cur, hv, hb, hh, rest⟩
  · exact .inl h0
  · exact .inr ⟨g, cap, cur, hv, hb, by rw [hk g (by rw [hv]; rfl)]; exact hh, rest⟩
theorem rown_lt {w : World} {B : Nat} {v : Value} {e : TypeId} {sz k : Nat} {xs : List Value} (h : w.ownsRow B e sz v k xs) {g : Nat} (hg : v.ownBlock = some g) : B ≤ g ∧ g < w.heap.size := by
  rcases h.2 with ⟨rfl, _⟩ | ⟨g', cap, cur, rfl, hb, hh, _⟩
  · simp [Value.ownBlock] at hg
  · have : g' = g := by simpa [Value.ownBlock] using hg
    subst this
    exact ⟨hb, (Array.getElem?_eq_some_iff.1 hh).1⟩
theorem rown_apart {w : World} {B B' : Nat} {v v' : Value} {e e' : TypeId} {sz sz' k k' : Nat} {xs xs' : List Value} (h : w.ownsRow B e sz v k xs) (h' : w.ownsRow B' e' sz' v' k' xs') (hne : e ≠ e') {g : Nat} (hg : v.ownBlock = some g) : v'.ownBlock ≠ some g := by
  rcases h.2 with ⟨rfl, _⟩ | ⟨g1, cap, cur, rfl, _, hh, _⟩
  · simp [Value.ownBlock] at hg
  · have e1 : g1 = g := by simpa [Value.ownBlock] using hg
    subst e1
    rcases h'.2 with ⟨rfl, _⟩ | ⟨g2, cap2, cur2, rfl, _, hh2, _⟩
    · simp [Value.ownBlock]
    · intro e2
      have e3 : g2 = g1 := by simpa [Value.ownBlock] using e2
      subst e3
      rw [hh] at hh2
      simp at hh2
      exact hne hh2.2
theorem rown_form {w : World} {B : Nat} {v : Value} {e : TypeId} {sz k : Nat} {xs : List Value} (h : w.ownsRow B e sz v k xs) : ∃ A c, v = .slice A k c := by
  rcases h.2 with ⟨rfl, rfl⟩ | ⟨g', cap, cur, hv, _⟩
  · exact ⟨none, 0, rfl⟩
  · exact ⟨_, _, hv⟩
structure MadeR (t : TypeId) (w wr : World) (v : Value) (vs : List Value) : Prop where
  own : wr.ownsRow w.heap.size t 1 v vs.length vs
  below : Below w.heap.size w wr
theorem MadeR.start (t : TypeId) (w : World) : MadeR t w w (.slice none 0 0) [] := ⟨World.ownsRow_nil w _ _ _, Below.refl _ _⟩
theorem MadeR.fresh {t : TypeId} {w wr w2 : World} {v : Value} {vs : List Value} (h : MadeR t w wr v vs) (hb : Below wr.heap.size wr w2) : MadeR t w w2 v vs :=
  ⟨rown_same h.own (fun g hg => hb.block g (rown_lt h.own hg).2), h.below.trans (hb.mono h.below.size)⟩
theorem MadeR.drew {t : TypeId} {w wr : World} {v : Value} {vs : List Value} (h : MadeR t w wr v vs) : MadeR t w wr.drew v vs := h.fresh ((Below.refl _ _).drew)
theorem MadeR.row {t : TypeId} {w wr : World} {A : Option Addr} {n c : Nat} {vs : List Value} (h : MadeR t w wr (.slice A n c) vs) (hn : vs.length = n) : RowAt wr (fun g => g < wr.heap.size) A vs := by
  have h1 := h.own
  rw [hn] at h1
  exact (RowAt.of_own h1).weak (fun g hg => hg.2.1)
/-- the kind of a row -/
structure Kind (t sl : TypeId) (z : Value) (by_ : Nat) : Prop where
  sl : Try.prog.underlying sl = some (.slice t)
  info : (Try.prog.info? t).map (fun i => (i.zero, i.size, i.bytes)) = some (some z, 1, by_)
  z : z.cells.size = 1
theorem kBool : Kind 4 54 (.bool false) 1 := ⟨Try.underlying54, by kernel_rfl, rfl⟩
theorem MadeR.push {t sl : TypeId} {z : Value} {by_ : Nat} (K : Kind t sl z by_) {w w1 : World} {v : Value} {vs : List Value} (h : MadeR t w w1 v vs) (x : Value) (hx : x.oneCell' = true) {n : Nat} (hn : vs.length = n) (hb : (n + 1) * by_ ≤ 140737488355328) (hm : n + 1 ≤ maxLen) :
    ∃ A c w2, (Builtin.append_ #[sl, sl] sl #[v, .slice (some ⟨w1.heap.size, 0, none⟩) 1 1]).run Try.prog (w1.alloc (.cells #[x] t)) = .ok (.slice A (n + 1 : Nat) c) w2 ∧
      MadeR t w w2 (.slice A (n + 1 : Nat) c) (vs ++ [x]) ∧ ∀ g, g < w1.heap.size → v.ownBlock ≠ some g → w2.heap[g]? = w1.heap[g]? := by
  obtain ⟨i0, hinf, hz0, hz1, hz2⟩ := info_parts K.info
  have h3 := rown_same (w' := w1.alloc (.cells #[x] t)) h.own (fun g hg => Below.heap_alloc _ _ _ (rown_lt h.own hg).2)
  rw [hn] at h3
  obtain ⟨v', w', hr, ho, hg, _⟩ := run_append_own (P := Try.prog) (w1.alloc (.cells #[x] t)) w.heap.size sl sl t i0 z 1 by_ K.sl hinf hz0 hz1 hz2 K.z (by decide) v n vs h3 ⟨w1.heap.size, 0, none⟩ 1 1 [x] rfl (fun j u hu => by
    cases j with
    | zero =>
      have e : (⟨w1.heap.size, 0, none⟩ : Addr).add 0 = ⟨w1.heap.size, 0, none⟩ := rfl
      rw [e, lit_cell]
      simpa using hu
    | succ j => simp at hu) (by simpa using hx) hm hb (by simp; have := h.below.size; omega)
  obtain ⟨A, c, rfl⟩ := rown_form ho
  have hl : (vs ++ [x]).length = n + 1 := by simp [hn]
  have hal : Below w1.heap.size w1 (w1.alloc (.cells #[x] t)) := (Below.refl _ _).alloc (Nat.le_refl _) _
  refine ⟨A, c, w', hr, ⟨by rw [hl]; exact ho, (h.below.alloc h.below.size _).grown hg (h.below.alloc h.below.size _).size (fun g hg' => (rown_lt h3 hg').1)⟩, fun g hg1 hg2 => ?_⟩
  rw [hg.block g (by simp; omega) (fun e => hg2 e.symm), hal.block g hg1]
theorem wpList_append_g {P : Program} {w w' : World} {ops : Array Oper} {rest : List Oper} {o : Oper} {a : Act} {Q : Exit → Act → World → Prop} {v u v' : Value} {sl : TypeId} (hg : o.guard = none) (s x : Operand)
    (hop : o.op = Op.call { callee := Callee.builtin Builtin.append, args := #[s, x], argTypes := #[sl, sl] }) (hty : o.type = sl) (hs : a.eval s = v) (hx : a.eval x = u)
    (hrun : (Builtin.append_ #[sl, sl] sl #[v, u]).run P w = .ok v' w') (h : wpList P ops Q rest (a.put o.dst v') w') : wpList P ops Q (o :: rest) a w := by
  refine wpList_plain hg fun K hK' => ?_
  unfold Oper.wp
  simp [execOp, hop, hty, resolve, invoke, builtin, hs, hx, hrun, Result.andThen]
  exact hK' _ _ h


def bv (l : Out) : List Value := l.map Value.bool
theorem bv_len (l : Out) : (bv l).length = l.length := by simp [bv]
theorem bv_get {l : Out} {j : Nat} {x : Bool} (h : l[j]? = some x) : (bv l)[j]? = some (.bool x) := by simp [bv, h]
theorem bv_snoc (l : Out) (x : Bool) : bv (l ++ [x]) = bv l ++ [.bool x] := by simp [bv]
/-- a slice of outcomes -/
abbrev Bools (w : World) (A : Option Addr) (l : Out) : Prop := RowAt w (fun g => g < w.heap.size) A (bv l)
theorem Bools.below' {w w' : World} {A : Option Addr} {l : Out} (h : Bools w A l) (hb : Below w.heap.size w w') : Bools w' A l := (RowAt.below h hb (fun _ hg => hg)).weak (fun g hg => Nat.lt_of_lt_of_le hg hb.size)
end Go.Proofs.Ytpidjekabnnmcaa.wn
