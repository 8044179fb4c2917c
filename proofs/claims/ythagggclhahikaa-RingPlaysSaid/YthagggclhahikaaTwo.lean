/-
  Given for the seat's laws: two rings side by side, each made behind w, and what a step on one leaves of the other. No condition.
-/
import Derived.Test.YthagggclhahikaaAwake
namespace Go.Proofs.Ythagggclhahikaa.two
open Go.RowKit mem ring plain put peek same api
set_option linter.unusedVariables false

structure Two (w W : World) (b s b2 s2 N : Nat) (xs ys : List Int) : Prop where
  one : Has W b s N xs
  two : Has W b2 s2 N ys
  lo : w.heap.size ≤ b ∧ w.heap.size ≤ s ∧ w.heap.size ≤ b2 ∧ w.heap.size ≤ s2
  apart : b ≠ b2 ∧ b ≠ s2 ∧ s ≠ b2 ∧ s ≠ s2
  below : Below w.heap.size w W

section
variable {w W W' : World} {b s b2 s2 N : Nat} {xs ys xs' : List Int}
theorem Two.swap (h : Two w W b s b2 s2 N xs ys) : Two w W b2 s2 b s N ys xs :=
  ⟨h.two, h.one, ⟨h.lo.2.2.1, h.lo.2.2.2, h.lo.1, h.lo.2.1⟩, ⟨Ne.symm h.apart.1, Ne.symm h.apart.2.2.1, Ne.symm h.apart.2.1, Ne.symm h.apart.2.2.2⟩, h.below⟩
theorem Two.step (h : Two w W b s b2 s2 N xs ys) (hh : Has W' b s N xs') (hk : Keep W.heap.size (fun g => g = b ∨ g = s) W W') : Two w W' b s b2 s2 N xs' ys := by
  have h1 := h.lo
  have h2 := h.apart
  have h3 := h.two.lt
  have h4 := h.below.size
  exact ⟨hh, h.two.keep hk h3.1 h3.2 (by omega) (by omega), h.lo, h.apart, h.below.trans (hk.below (by omega) (fun k hk e => by omega))⟩
theorem Two.step1 (h : Two w W b s b2 s2 N xs ys) (hh : Has W' b s N xs') (hk : Keep W.heap.size (fun g => g = b) W W') : Two w W' b s b2 s2 N xs' ys := h.step hh (hk.mono (Nat.le_refl _) (fun k _ e => .inl e))
theorem Two.later (h : Two w W b s b2 s2 N xs ys) (hb : Below W.heap.size W W') : Two w W' b s b2 s2 N xs ys :=
  ⟨h.one.below hb h.one.lt.1 h.one.lt.2, h.two.below hb h.two.lt.1 h.two.lt.2, h.lo, h.apart, h.below.trans (hb.mono h.below.size)⟩
theorem Two.keep {S : Nat → Prop} (h : Two w W b s b2 s2 N xs ys) (hk : Keep W.heap.size S W W') (h1 : ¬ S b ∧ ¬ S s ∧ ¬ S b2 ∧ ¬ S s2) (h2 : ∀ g, g < w.heap.size → ¬ S g) : Two w W' b s b2 s2 N xs ys :=
  ⟨h.one.keep hk h.one.lt.1 h.one.lt.2 h1.1 h1.2.1, h.two.keep hk h.two.lt.1 h.two.lt.2 h1.2.2.1 h1.2.2.2, h.lo, h.apart, h.below.trans (hk.below h.below.size h2)⟩
/-- what was there ahead of the rings reads as it did -/
theorem Two.src (h : Two w W b s b2 s2 N xs ys) {A : Option Addr} {m c : Nat} {zs : List Int} (hs : Src w (fun g => g < w.heap.size) A m c zs) : Src W (fun g => g < w.heap.size) A m c zs := hs.keep (fun g hg => h.below.block g hg)
theorem Two.srcFor (h : Two w W b s b2 s2 N xs ys) {A : Option Addr} {m c : Nat} {zs : List Int} (hs : Src w (fun g => g < w.heap.size) A m c zs) : Src W (fun g => g < W.heap.size ∧ g ≠ s) A m c zs :=
  (h.src hs).weak (fun g hg => by have := h.lo; have := h.below.size; omega)
end

theorem src_later {W W' : World} {B C : Nat} {S : Nat → Prop} {A : Option Addr} {m c : Nat} {zs : List Int} (hs : Src W (fun g => B ≤ g ∧ g < C) A m c zs) (hk : Keep W.heap.size S W W') (hC : C ≤ W.heap.size) (hS : ∀ g, B ≤ g → g < C → ¬ S g) : Src W' (fun g => B ≤ g ∧ g < C) A m c zs :=
  hs.keep (fun g hg => hk.block g (by omega) (hS g hg.1 hg.2))

theorem own_keep {W W' : World} {B : Nat} {S : Nat → Prop} {v : Value} {n : Nat} {xs : List Value} (h : W.ownsRow B 5 1 v n xs) (hk : Keep W.heap.size S W W') (hS : ∀ g, B ≤ g → g < W.heap.size → ¬ S g) : W'.ownsRow B 5 1 v n xs := by
  refine ⟨h.1, ?_⟩
  rcases h.2 with h0 | ⟨g, cap, cur, hv, hB, hh, rest⟩
  · exact .inl h0
  · have hlt := (Array.getElem?_eq_some_iff.1 hh).1
    exact .inr ⟨g, cap, cur, hv, hB, (hk.block g hlt (hS g hB hlt)).trans hh, rest⟩

theorem keep_grown {W W' : World} {row : Option Nat} (hg : W.grownBy W' row) : Keep W.heap.size (fun g => some g = row) W W' := ⟨hg.os, hg.tape, hg.output, hg.size, fun k hk hs => hg.block k hk hs⟩

theorem wpList_append_eq {P : Program} {w w' : World} {ops : Array Oper} {rest : List Oper} {o : Oper} {a : Act} {Q : Exit → Act → World → Prop} {v u v' : Value} (hg : o.guard = none) (s x : Operand)
    (hop : o.op = Op.call { callee := Callee.builtin Builtin.append, args := #[s, x], argTypes := #[31, 31] }) (hty : o.type = 31) (hs : a.eval s = v) (hx : a.eval x = u)
    (hrun : (Builtin.append_ #[31, 31] 31 #[v, u]).run P w = .ok v' w') (h : wpList P ops Q rest (a.put o.dst v') w') : wpList P ops Q (o :: rest) a w := by
  refine wpList_plain hg fun K hK' => ?_
  unfold Oper.wp
  simp [execOp, hop, hty, resolve, invoke, builtin, hs, hx, hrun, Result.andThen]
  exact hK' _ _ h

/-- two rings made one behind the other -/
theorem two_of {w w1 w2 w3 : World} {b s b2 s2 N : Nat} (h0 : Below w.heap.size w w1) (h1 : Has w2 b s N []) (hb : w1.heap.size ≤ b) (hs : w1.heap.size ≤ s) (k1 : Below w1.heap.size w1 w2)
    (h2 : Has w3 b2 s2 N []) (hb2 : w2.heap.size ≤ b2) (hs2 : w2.heap.size ≤ s2) (k2 : Below w2.heap.size w2 w3) : Two w w3 b s b2 s2 N [] [] := by
  have l1 := h1.lt
  have z0 := h0.size
  have z1 := k1.size
  exact ⟨h1.below k2 l1.1 l1.2, h2, ⟨by omega, by omega, by omega, by omega⟩, ⟨by omega, by omega, by omega, by omega⟩, h0.trans ((k1.mono z0).trans (k2.mono (by omega)))⟩

theorem slice_to (A : Option Addr) (l c k : Nat) (hk : k ≤ c) (W : World) :
    (Instr.slice 31 (.slice A l c) none (some (.int .i64 (k : Int))) none).run Try.prog W = .ok (.slice A k c) W := by
  obtain ⟨i0, hi, hz0, hz1, hz2⟩ := info_parts info5
  rw [run_slice_h W 31 _ l c (by kernel_rfl) .i64 _ (by omega) (by omega)]
  have he : Try.prog.elem 31 = 5 := by kernel_rfl
  rw [he]
  have hs : (sizeOf 5).run Try.prog W = .ok 1 W := by simp [sizeOf, typeInfo, hi, hz1]
  rw [hs]
  cases A with
  | none => simp [Result.andThen, sliced]
  | some a => simp [Result.andThen, sliced, Addr.add]

theorem src_to {W : World} {ok : Nat → Prop} {A : Option Addr} {l c : Nat} {bs : List Int} (h : Src W ok A l c bs) {k : Nat} (hk : k ≤ l) : Src W ok A k c (bs.take k) := by
  have h1 := h.len
  have h2 := h.cap
  exact ⟨by rw [List.length_take]; omega, by omega, h.none_, h.max, h.at_.take k⟩

theorem slice_from (A : Option Addr) (l c k : Nat) (hk : k ≤ l) (hc : l ≤ c) :
    ∃ A', (∀ W, (Instr.slice 31 (.slice A l c) (some (.int .i64 (k : Int))) none none).run Try.prog W = .ok (.slice A' (l - k) (c - k)) W) ∧
      ∀ (W : World) (ok : Nat → Prop) (bs : List Int), Src W ok A l c bs → Src W ok A' (l - k) (c - k) (bs.drop k) := by
  obtain ⟨i0, hi, hz0, hz1, hz2⟩ := info_parts info5
  refine ⟨if c = k then A else A.map (·.add (k * 1)), fun W => ?_, fun W ok bs h => ?_⟩
  · rw [run_slice_l W 31 _ l c (by kernel_rfl) .i64 _ (by omega) (by omega)]
    have he : Try.prog.elem 31 = 5 := by kernel_rfl
    rw [he]
    have hs : (sizeOf 5).run Try.prog W = .ok 1 W := by simp [sizeOf, typeInfo, hi, hz1]
    rw [hs]
    simp [Result.andThen, sliced]
  · have h1 := h.len
    have hm := h.max
    refine ⟨by rw [List.length_drop]; omega, by omega, fun e => ?_, by omega, fun hp => ?_⟩
    · by_cases hck : c = k
      · omega
      · rw [if_neg hck] at e
        cases A with
        | none => have := h.none_ rfl; omega
        | some a => cases e
    · have hp' := hp
      rw [List.length_drop] at hp'
      rw [if_neg (by omega), Nat.mul_one]
      exact h.at_.drop k hp

end Go.Proofs.Ythagggclhahikaa.two
