/-
  Given for the seat's laws: what a reload does, plain and in memory, step by step. No condition but those of the theorems.
-/
import Derived.Test.YtpidjekabnnmcaaHDelete
namespace Go.Proofs.Ytpidjekabnnmcaa.hp
open Go.RowKit mem find pb
set_option linter.unusedVariables false

/-- what a reload has come to: what is left of the old records, the new ones, the last key, the plan's rows -/
structure TS where
  left : List RD
  out : List RD
  last : Int
  Q : List (Int × Int)
def pfind (l : List RD) (p : PK) : Int := fnd (fun i => match l[i]? with | some x => decide (x.pa = p) | none => false) l.length
def tstep (s : TS) (p : PK) : TS :=
  if pfind s.left p < 0 then ⟨s.left, s.out ++ [newR (s.last + 1) p], s.last + 1, pb.ins (s.last + 1) s.Q⟩
  else match s.left[(pfind s.left p).toNat]? with
    | some x => ⟨s.left.eraseIdx (pfind s.left p).toNat, s.out ++ [x], s.last, s.Q⟩
    | none => s
def dropK (k : Int) (Q : List (Int × Int)) : List (Int × Int) := if idx k Q < Q.length then pb.del k Q else Q
def dropsOf (l : List RD) (Q : List (Int × Int)) : List (Int × Int) := l.foldl (fun Q x => dropK x.key Q) Q
theorem pfind_some {l : List RD} {p : PK} (h : ¬ pfind l p < 0) : ∃ (k : Nat) (x : RD), pfind l p = (k : Int) ∧ l[k]? = some x ∧ x.pa = p ∧ k < l.length := by
  have hb := fnd_bound (fun i => match l[i]? with | some x => decide (x.pa = p) | none => false) l.length
  obtain ⟨k, hk⟩ : ∃ k : Nat, pfind l p = (k : Int) := ⟨(pfind l p).toNat, by omega⟩
  obtain ⟨h1, h2, _⟩ := fnd_some (ok := fun i => match l[i]? with | some x => decide (x.pa = p) | none => false) hk
  cases hx : l[k]? with
  | none => rw [hx] at h2; cases h2
  | some x => rw [hx] at h2; exact ⟨k, x, hk, hx, of_decide_eq_true h2, h1⟩
theorem tstep_new {s : TS} {p : PK} (h : pfind s.left p < 0) : tstep s p = ⟨s.left, s.out ++ [newR (s.last + 1) p], s.last + 1, pb.ins (s.last + 1) s.Q⟩ := by unfold tstep; rw [if_pos h]
theorem tstep_old {s : TS} {p : PK} {k : Nat} {x : RD} (h : pfind s.left p = (k : Int)) (hx : s.left[k]? = some x) : tstep s p = ⟨s.left.eraseIdx k, s.out ++ [x], s.last, s.Q⟩ := by
  unfold tstep
  rw [if_neg (by omega), h]
  simp [hx]

/-- what stands all along, j parents on -/
structure TOk (D : HD) (j : Nat) (s : TS) : Prop where
  out : s.out.length = j
  left : s.left.length ≤ 16
  l0 : 0 ≤ s.last
  l1 : s.last ≤ D.last + (j : Int)
  ql : s.Q.length ≤ 16 + j
  qk : ∀ x ∈ s.Q, x.1 ≤ s.last
theorem idx_new {Q : List (Int × Int)} {k : Int} (h : ∀ x ∈ Q, x.1 ≤ k) : ¬ idx (k + 1) Q < Q.length := by
  rw [pb.idx_none (fun j y hy => by have := h y (List.mem_of_getElem? hy); omega)]
  omega
theorem ins_mem {k : Int} {Q : List (Int × Int)} {x : Int × Int} (h : x ∈ pb.ins k Q) : x = (k, 0) ∨ x ∈ Q := by
  unfold pb.ins at h
  rcases List.mem_append.1 h with h1 | h1
  · exact .inr (List.mem_of_mem_take h1)
  · rcases List.mem_cons.1 h1 with h2 | h2
    · exact .inl h2
    · exact .inr (List.mem_of_mem_drop h2)
theorem tok_step {D : HD} {j : Nat} {s : TS} (h : TOk D j s) (p : PK) : TOk D (j + 1) (tstep s p) := by
  by_cases hp : pfind s.left p < 0
  · rw [tstep_new hp]
    refine ⟨by simp [h.out], h.left, by have := h.l0; show 0 ≤ s.last + 1; omega, by have := h.l1; show s.last + 1 ≤ _; omega, ?_, fun x hx => ?_⟩
    · show (pb.ins (s.last + 1) s.Q).length ≤ _
      rw [pb.ins_len]
      have := h.ql
      omega
    · show x.1 ≤ s.last + 1
      rcases ins_mem hx with h1 | h1
      · rw [h1]; exact Int.le_refl _
      · have := h.qk x h1; omega
  · obtain ⟨k, x, hk, hx, _, hlt⟩ := pfind_some hp
    rw [tstep_old hk hx]
    refine ⟨by simp [h.out], ?_, h.l0, by have := h.l1; show s.last ≤ _; omega, by have := h.ql; show s.Q.length ≤ _; omega, h.qk⟩
    show (s.left.eraseIdx k).length ≤ 16
    rw [List.length_eraseIdx, if_pos hlt]
    have := h.left
    omega

/-- a reload in memory -/
structure TM (w0 : World) (S : Nat → Prop) (r q : Nat) (D : HD) (AL : Option Addr) (cL : Nat) (s : TS) (wr : World) : Prop where
  ex : ∃ (A : Option Addr) (c : Nat) (bsO bsL : List Nat) (SO : Nat → Prop), Hx wr SO r { D with R := s.out, last := s.last, Q := s.Q } A c q bsO ∧ PRow wr AL cL bsL ∧ Recs wr S bsL s.left ∧ (∀ g, rowOf AL = some g → ¬ SO g ∧ S g) ∧ (∀ b, b ∈ bsL → ¬ SO b) ∧ (∀ g, SO g → S g ∨ w0.heap.size ≤ g)
  keep : Keep w0.heap.size S w0 wr
section
variable {w0 wr wr' : World} {S : Nat → Prop} {r q : Nat} {D : HD} {AL : Option Addr} {cL : Nat} {s : TS}
theorem TM.below (h : TM w0 S r q D AL cL s wr) (hb : Below wr.heap.size wr wr') : TM w0 S r q D AL cL s wr' := by
  obtain ⟨A, c, bsO, bsL, SO, h1, h2, h3, h4, h5, h6⟩ := h.ex
  refine ⟨⟨A, c, bsO, bsL, SO, h1.below hb, h2.same fun g e => hb.block g (prow_lt h2 e), h3.same fun b hbm => ?_, h4, h5, h6⟩, h.keep.trans (Keep.of_below (hb.mono h.keep.size) S)⟩
  obtain ⟨x, hl⟩ := h3.lies hbm
  exact hb.block b hl.lt
theorem TM.lt (h : TM w0 S r q D AL cL s wr) : r < wr.heap.size := by
  obtain ⟨A, c, bsO, bsL, SO, h1, _⟩ := h.ex
  exact h1.hd.lt
/-- a new record more -/
theorem TM.more {A : Option Addr} {c : Nat} {bsO bsL : List Nat} {SO : Nat → Prop} {e : Ending} {who : PK} (hk0 : Keep w0.heap.size S w0 wr) (h1 : Hx wr SO r { D with R := s.out, last := s.last, Q := s.Q } A c q bsO) (h2 : PRow wr AL cL bsL) (h3 : Recs wr S bsL s.left)
    (h4 : ∀ g, rowOf AL = some g → ¬ SO g ∧ S g) (h5 : ∀ b, b ∈ bsL → ¬ SO b) (h6 : ∀ g, SO g → S g ∨ w0.heap.size ≤ g) (hp : BegPost SO r { D with R := s.out, last := s.last, Q := s.Q } who q bsO wr e wr') :
    TM w0 S r q D AL cL ⟨s.left, s.out ++ [newR (s.last + 1) who], s.last + 1, pb.ins (s.last + 1) s.Q⟩ wr' := by
  obtain ⟨A', c', b, hx, hb⟩ := hp.ex
  have hrow : ∀ g, rowOf AL = some g → g < wr.heap.size := fun g e => prow_lt h2 e
  have hrec : ∀ b, b ∈ bsL → b < wr.heap.size := fun b hb => by obtain ⟨x, hl⟩ := h3.lies hb; exact hl.lt
  have hsz := hk0.size
  refine ⟨⟨A', c', bsO ++ [b], bsL, fun g => SO g ∨ wr.heap.size ≤ g, hx, h2.same fun g e => hp.keep.block g (hrow g e) (h4 g e).1, h3.same fun b hb => hp.keep.block b (hrec b hb) (h5 b hb), fun g e => ⟨?_, (h4 g e).2⟩, fun b hb => ?_, fun g hg => ?_⟩, ?_⟩
  · rintro (h | h)
    · exact (h4 g e).1 h
    · have := hrow g e; omega
  · rintro (h | h)
    · exact h5 b hb h
    · have := hrec b hb; omega
  · rcases hg with h | h
    · exact h6 g h
    · exact .inr (by omega)
  · refine hk0.trans ⟨hp.keep.os, hp.keep.tape, hp.keep.output, hp.keep.size, fun k hk hs => hp.keep.block k (by omega) (fun hso => ?_)⟩
    rcases h6 k hso with h | h
    · exact hs h
    · omega
/-- a record taken over -/
theorem TM.over {w2 w3 : World} {A' : Option Addr} {c' b k : Nat} {bsO bsL : List Nat} {SO : Nat → Prop} {x : RD} {e : Ending} (hk0 : Keep w0.heap.size S w0 wr) (h2 : PRow wr AL cL bsL) (h3 : Recs wr S bsL s.left)
    (h4 : ∀ g, rowOf AL = some g → ¬ SO g ∧ S g) (h5 : ∀ b, b ∈ bsL → ¬ SO b) (h6 : ∀ g, SO g → S g ∨ w0.heap.size ≤ g) (hb : bsL[k]? = some b) (hx0 : s.left[k]? = some x)
    (hx : Hx w2 (fun g => SO g ∨ g = b ∨ wr.heap.size ≤ g) r { D with R := s.out ++ [x], last := s.last, Q := s.Q } A' c' q (bsO ++ [b])) (hk : Keep wr.heap.size SO wr w2) (hd : PDel w2 AL cL bsL k e w3) :
    TM w0 S r q D AL cL ⟨s.left.eraseIdx k, s.out ++ [x], s.last, s.Q⟩ w3 := by
  have hrow : ∀ g, rowOf AL = some g → g < wr.heap.size := fun g e => prow_lt h2 e
  have hrec : ∀ b, b ∈ bsL → b < wr.heap.size := fun b hb => by obtain ⟨x, hl⟩ := h3.lies hb; exact hl.lt
  have hsz := hk0.size
  have h2' : PRow w2 AL cL bsL := h2.same fun g e => hk.block g (hrow g e) (h4 g e).1
  have h3' : Recs w2 S bsL s.left := h3.same fun b hb => hk.block b (hrec b hb) (h5 b hb)
  have hbm := List.mem_of_getElem? hb
  have hbl := h3'.at_ k b x hb hx0
  have hbS := h3.own b hbm
  have hk3 : Keep w2.heap.size (fun g => rowOf AL = some g) w2 w3 := ⟨hd.grown.os, hd.grown.tape, hd.grown.output, hd.grown.size, fun g hg hne => hd.grown.block g hg (fun e => hne e.symm)⟩
  have hx3 : Hx w3 (fun g => SO g ∨ g = b ∨ wr.heap.size ≤ g) r { D with R := s.out ++ [x], last := s.last, Q := s.Q } A' c' q (bsO ++ [b]) := hx.keep hk3 (fun g _ hs he => by
    rcases hs with h | h | h
    · exact (h4 g he).1 h
    · subst h; exact prow_apart h2' he hbl (by decide) rfl
    · have := hrow g he; omega)
  have hmem : ∀ g, g ∈ bsL.eraseIdx k → g ∈ bsL ∧ g ≠ b := fun g hg => by
    refine ⟨List.mem_of_mem_eraseIdx hg, fun e => ?_⟩
    subst e
    obtain ⟨i, hi⟩ := List.getElem?_of_mem hg
    rw [List.getElem?_eraseIdx] at hi
    split at hi
    · have := (List.getElem?_inj (List.getElem?_eq_some_iff.1 hi).1 h3.nod).1 (hi.trans hb.symm); omega
    · have := (List.getElem?_inj (List.getElem?_eq_some_iff.1 hi).1 h3.nod).1 (hi.trans hb.symm); omega
  refine ⟨⟨A', c', bsO ++ [b], bsL.eraseIdx k, fun g => SO g ∨ g = b ∨ wr.heap.size ≤ g, hx3, hd.rows, ⟨?_, ?_, fun i g y hg hy => ?_, fun g hg => h3.own g (hmem g hg).1⟩, fun g e => ⟨?_, (h4 g e).2⟩, fun g hg => ?_, fun g hg => ?_⟩, ?_⟩
  · rw [List.length_eraseIdx, List.length_eraseIdx, h3.len]
  · exact h3.nod.sublist (List.eraseIdx_sublist _ _)
  · have hne : rowOf AL ≠ some g := fun e => by
      obtain ⟨z, hz⟩ := h3'.lies (hmem g (List.mem_of_getElem? hg)).1
      exact prow_apart h2' e hz (by decide) rfl
    rw [List.getElem?_eraseIdx] at hg hy
    have key : ∀ i, bsL[i]? = some g → s.left[i]? = some y → Lies w3 g 79 (rcs y) := fun i q1 q2 => by
      have hl := h3'.at_ i g y q1 q2
      exact hl.of_same (hd.grown.block g hl.lt (fun e => hne e.symm))
    split at hg
    · rename_i hik; rw [if_pos hik] at hy; exact key i hg hy
    · rename_i hik; rw [if_neg hik] at hy; exact key (i + 1) hg hy
  · rintro (h | h | h)
    · exact (h4 g e).1 h
    · subst h; exact prow_apart h2' e hbl (by decide) rfl
    · have := hrow g e; omega
  · rintro (h | h | h)
    · exact h5 g (hmem g hg).1 h
    · exact (hmem g hg).2 h
    · have := hrec g (hmem g hg).1; omega
  · rcases hg with h | h | h
    · exact h6 g h
    · subst h; exact .inl hbS
    · exact .inr (by omega)
  · have hk2 : Keep w0.heap.size S w0 w2 := hk0.trans ⟨hk.os, hk.tape, hk.output, hk.size, fun g hg hs => hk.block g (by omega) (fun hso => by rcases h6 g hso with h | h; exact hs h; omega)⟩
    exact hk2.trans ⟨hk3.os, hk3.tape, hk3.output, hk3.size, fun g hg hs => hk3.block g (by have := hk2.size; omega) (fun e => hs (h4 g e).2)⟩
/-- a row of the plan dropped -/
theorem TM.drop {A : Option Addr} {c : Nat} {bsO bsL : List Nat} {SO : Nat → Prop} {w' : World} {Q' : List (Int × Int)} (hk0 : Keep w0.heap.size S w0 wr) (h1 : Hx wr SO r { D with R := s.out, last := s.last, Q := s.Q } A c q bsO) (h2 : PRow wr AL cL bsL) (h3 : Recs wr S bsL s.left)
    (h4 : ∀ g, rowOf AL = some g → ¬ SO g ∧ S g) (h5 : ∀ b, b ∈ bsL → ¬ SO b) (h6 : ∀ g, SO g → S g ∨ w0.heap.size ≤ g) (hd : pl.Did (PB wr SO) q D.ev Q' wr w') :
    TM w0 S r q D AL cL ⟨s.left, s.out, s.last, Q'⟩ w' := by
  have hrow : ∀ g, rowOf AL = some g → g < wr.heap.size := fun g e => prow_lt h2 e
  have hrec : ∀ b, b ∈ bsL → b < wr.heap.size := fun b hb => by obtain ⟨x, hl⟩ := h3.lies hb; exact hl.lt
  have hsz := hk0.size
  have hx := (h1.mono (S' := fun g => SO g ∨ wr.heap.size ≤ g) (fun g hg => .inl hg)).setPlan (S' := fun g => SO g ∨ wr.heap.size ≤ g) (hd.pn.mono (fun g hg => by rcases hg with h | h; exact .inl h.1; exact .inr h))
    (hd.keep.mono (Nat.le_refl _) (fun g _ hg => ⟨.inl hg.1, hg.2⟩)) (fun g hg => hg)
  have hk : Keep wr.heap.size SO wr w' := hd.keep.mono (Nat.le_refl _) (fun g _ hg => hg.1)
  refine ⟨⟨A, c, bsO, bsL, fun g => SO g ∨ wr.heap.size ≤ g, hx, h2.same fun g e => hk.block g (hrow g e) (h4 g e).1, h3.same fun b hb => hk.block b (hrec b hb) (h5 b hb), fun g e => ⟨?_, (h4 g e).2⟩, fun b hb => ?_, fun g hg => ?_⟩, ?_⟩
  · rintro (h | h)
    · exact (h4 g e).1 h
    · have := hrow g e; omega
  · rintro (h | h)
    · exact h5 b hb h
    · have := hrec b hb; omega
  · rcases hg with h | h
    · exact h6 g h
    · exact .inr (by omega)
  · refine hk0.trans ⟨hk.os, hk.tape, hk.output, hk.size, fun k hk1 hs => hk.block k (by omega) (fun hso => ?_)⟩
    rcases h6 k hso with h | h
    · exact hs h
    · omega
theorem pdrop_any {w : World} {S : Nat → Prop} {q : Nat} {ev : Int} {Q : List (Int × Int)} (h : pl.Pn w S q ev Q) (key : Int) : Calls Try.prog 50 #[.pointer (some ⟨q, 0, none⟩), .int .i64 key] w fun e w' => ∃ v, e = .returned (.int .i64 v) ∧ pl.Did S q ev (dropK key Q) w w' := by
  unfold dropK
  by_cases hk : idx key Q < Q.length
  · rw [if_pos hk]
    exact (pl.drop_ok h hk).mono fun e w' hh => ⟨0, hh⟩
  · rw [if_neg hk]
    exact (pl.drop_none h hk).mono fun e w' ⟨he, hb⟩ => ⟨30, he, pl.did_same h hb⟩
end
end Go.Proofs.Ytpidjekabnnmcaa.hp
