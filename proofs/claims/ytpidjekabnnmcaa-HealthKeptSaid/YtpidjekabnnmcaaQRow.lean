/-
  Given for the seat's laws: while a round is made: rows that are turned up to a place, the keys that are due up to there, and the call's own blocks. No condition but those of the theorems.
-/
import Derived.Test.YtpidjekabnnmcaaQIn
import Derived.OwnWalkIn
namespace Go.Proofs.Ytpidjekabnnmcaa.pl
open Go.RowKit Go.Shelf mem find pb
set_option linter.unusedVariables false

/-- the rows of which the first k are turned -/
def mix (now ev : Int) (ws : List Int) (R : List (Int × Int)) (k : Nat) : List (Int × Int) := (R.take k).map (after now ev ws) ++ R.drop k
theorem mix_len (now ev : Int) (ws : List Int) (R : List (Int × Int)) (k : Nat) : (mix now ev ws R k).length = R.length := by simp [mix]; omega
theorem mix_zero (now ev : Int) (ws : List Int) (R : List (Int × Int)) : mix now ev ws R 0 = R := by simp [mix]
theorem mix_all (now ev : Int) (ws : List Int) (R : List (Int × Int)) : mix now ev ws R R.length = pb.round now ev ws R := by simp [mix, pb.round]
theorem mix_get (now ev : Int) (ws : List Int) (R : List (Int × Int)) (k i : Nat) : (mix now ev ws R k)[i]? = if i < k then (R[i]?).map (after now ev ws) else R[i]? := by
  unfold mix
  by_cases h : k ≤ R.length
  · by_cases hi : i < k
    · rw [if_pos hi, List.getElem?_append_left (by simp; omega), List.getElem?_map, List.getElem?_take, if_pos hi]
    · rw [if_neg hi, List.getElem?_append_right (by simp; omega), List.getElem?_drop]
      congr 1; simp; omega
  · rw [List.take_of_length_le (by omega), List.drop_of_length_le (by omega), List.append_nil, List.getElem?_map]
    by_cases hi : i < k
    · rw [if_pos hi]
    · rw [if_neg hi, List.getElem?_eq_none (by omega)]; rfl
theorem mix_at {now ev : Int} {ws : List Int} {R : List (Int × Int)} {k : Nat} {x : Int × Int} (h : R[k]? = some x) : (mix now ev ws R k)[k]? = some x := by rw [mix_get, if_neg (Nat.lt_irrefl _)]; exact h
theorem mix_succ {now ev : Int} {ws : List Int} {R : List (Int × Int)} {k : Nat} {x : Int × Int} (h : R[k]? = some x) : mix now ev ws R (k + 1) = (mix now ev ws R k).set k (after now ev ws x) := by
  have hk := (List.getElem?_eq_some_iff.1 h).1
  apply List.ext_getElem?
  intro i
  rw [mix_get, List.getElem?_set, mix_len]
  by_cases e : k = i
  · subst e
    rw [if_pos (by omega), if_pos rfl, if_pos hk, h]
    rfl
  · rw [if_neg e, mix_get]
    by_cases hi : i < k
    · rw [if_pos (by omega), if_pos hi]
    · rw [if_neg (by omega), if_neg hi]
theorem set_same {l : List (Int × Int)} {k : Nat} {x : Int × Int} (h : l[k]? = some x) : l.set k x = l := by
  apply List.ext_getElem?
  intro i
  rw [List.getElem?_set]
  by_cases e : k = i
  · subst e
    rw [if_pos rfl, if_pos (List.getElem?_eq_some_iff.1 h).1, h]
  · rw [if_neg e]
theorem asc_set {l : List (Int × Int)} (h : Asc l) {k : Nat} {x : Int × Int} (hk : l[k]? = some x) (v : Int) : Asc (l.set k (x.1, v)) := by
  have key : ∀ (i : Nat) (y : Int × Int), (l.set k (x.1, v))[i]? = some y → ∃ z, l[i]? = some z ∧ z.1 = y.1 := by
    intro i y hy
    rw [List.getElem?_set] at hy
    by_cases e : k = i
    · subst e
      rw [if_pos rfl, if_pos (List.getElem?_eq_some_iff.1 hk).1] at hy
      cases hy
      exact ⟨x, hk, rfl⟩
    · rw [if_neg e] at hy
      exact ⟨y, hy, rfl⟩
  intro i j y z hij hy hz
  obtain ⟨y', h1, h2⟩ := key i y hy
  obtain ⟨z', h3, h4⟩ := key j z hz
  have := h i j y' z' hij h1 h3
  omega
theorem take_snocR {l : List (Int × Int)} {i : Nat} {x : Int × Int} (h : l[i]? = some x) : l.take (i + 1) = l.take i ++ [x] := by rw [List.take_add_one, h]; rfl
theorem wants_yes {ws : List Int} {i : Nat} {k : Int} (h : ws[i]? = some k) : wants ws k = true := by
  unfold wants
  rw [List.any_eq_true]
  exact ⟨k, List.mem_of_getElem? h, by simp⟩
theorem wants_no {ws : List Int} {k : Int} (h : ∀ (i : Nat) (z : Int), ws[i]? = some z → z ≠ k) : wants ws k = false := by
  unfold wants
  rw [List.any_eq_false]
  intro z hz
  obtain ⟨i, hi⟩ := List.getElem?_of_mem hz
  have := h i z hi
  simpa using this

theorem own_below {w w' : World} {B size n : Nat} {e : TypeId} {v : Value} {xs : List Value} (h : w.ownsRow B e size v n xs) (hb : Below w.heap.size w w') : w'.ownsRow B e size v n xs :=
  h.kept (row := none) ⟨hb.os, hb.tape, hb.output, hb.size, fun j hj _ => hb.block j hj⟩ (by cases hv : v.ownBlock <;> simp)
theorem own_base {w : World} {B B' size n : Nat} {e : TypeId} {v : Value} {xs : List Value} (h : w.ownsRow B e size v n xs) (hB : B' ≤ B) : w.ownsRow B' e size v n xs := by
  refine ⟨h.1, ?_⟩
  rcases h.2 with h0 | ⟨g, cap, cur, hv, hb, rest⟩
  · exact .inl h0
  · exact .inr ⟨g, cap, cur, hv, by omega, rest⟩
theorem own_cell {w : World} {B size n : Nat} {e : TypeId} {v : Value} {xs : List Value} (h : w.ownsRow B e size v n xs) {g : Nat} (hg : v.ownBlock = some g) : B ≤ g ∧ ∃ cur, w.heap[g]? = some (.cells cur e (0, 0)) := by
  rcases h.2 with ⟨rfl, _⟩ | ⟨g', cap, cur, rfl, hb, hh, _⟩
  · simp [Value.ownBlock] at hg
  · simp [Value.ownBlock] at hg
    subst hg
    exact ⟨hb, cur, hh⟩
theorem own_far {w : World} {B size n : Nat} {e : TypeId} {v : Value} {xs : List Value} (h : w.ownsRow B e size v n xs) (p : Addr) (hp : p.block < B) (u : Value) : (w.setCell p u).ownsRow B e size v n xs :=
  h.kept (row := some p.block) ⟨rfl, rfl, rfl, by simp [World.setCell], fun j hj hne => Below.heap_setCell _ _ _ _ (fun e => hne (by rw [e]))⟩ (by
    cases hv : v.ownBlock with
    | none => exact .inl rfl
    | some g =>
      right
      intro e
      have := (own_cell h hv).1
      cases e
      omega)
theorem own_form {w : World} {base : Nat} {t : TypeId} {size : Nat} {v : Value} {n : Nat} {xs : List Value} (h : w.ownsRow base t size v n xs) : ∃ A c, v = .slice A n c := by
  rcases h.2 with ⟨rfl, rfl⟩ | ⟨g, cap, cur, rfl, _⟩
  · exact ⟨none, 0, rfl⟩
  · exact ⟨_, _, rfl⟩

/-- while a round is made -/
structure RJ (w : World) (S : Nat → Prop) (r : Nat) (ev now : Int) (A : Option Addr) (n c : Nat) (Aw : Option Addr) (nw cw : Nat) (M : List (Int × Int)) (D : List Int) (W : World) : Prop where
  pn : Pn W S r ev M
  hd : W.cell? ⟨r, 2, none⟩ = some (.slice A n c)
  b3 : Lies W w.heap.size 33 #[.pointer (some ⟨r, 0, none⟩)]
  b4 : Lies W (w.heap.size + 1) 3 #[.int .i64 now]
  b5 : Lies W (w.heap.size + 1 + 1) 47 #[.slice Aw nw cw]
  due : ∃ v, Lies W (w.heap.size + 1 + 1 + 1) 47 #[v] ∧ W.ownsRow (w.heap.size + 5) 3 1 v D.length (I8 D)
  bo : Lies W (w.heap.size + 1 + 1 + 1 + 1) 33 #[.pointer (some ⟨r, 0, none⟩)]
  keep : Keep w.heap.size S w W

section
variable {w W W' : World} {S : Nat → Prop} {r n c nw cw B : Nat} {ev now : Int} {A Aw : Option Addr} {M : List (Int × Int)} {D : List Int} {row : Option Nat}
theorem RJ.below (h : RJ w S r ev now A n c Aw nw cw M D W) (hb : Below W.heap.size W W') : RJ w S r ev now A n c Aw nw cw M D W' := by
  obtain ⟨v, h1, h2⟩ := h.due
  exact ⟨h.pn.below hb, (hb.cell (p := ⟨r, 2, none⟩) h.pn.lt).trans h.hd, h.b3.below hb h.b3.lt, h.b4.below hb h.b4.lt, h.b5.below hb h.b5.lt, ⟨v, h1.below hb h1.lt, own_below h2 hb⟩, h.bo.below hb h.bo.lt, h.keep.trans (Keep.of_below (hb.mono h.keep.size) S)⟩
theorem pn_own (h : Pn W S r ev M) (hg : W.grownBy W' row) (hr : ∀ r, row = some r → B ≤ r ∧ ∃ o : Obj, W.heap[r]? = some o ∧ o.isCells = false) : Pn W' S r ev M := by
  obtain ⟨A, c, h1, h2, h3⟩ := h.ex
  refine ⟨⟨A, c, lies_own h1 hg hr, RowsAt.of_same h2 (fun g e => ?_), h3⟩, h.own, h.asc, h.len, h.lo, h.hi⟩
  obtain ⟨_, cur, hc⟩ := own_cell h2 e
  exact lies_own (t := 103) (cs := cur) hc hg hr |>.trans hc.symm
theorem keep_own {w : World} (h : Keep w.heap.size S w W) (hB : w.heap.size ≤ B) (hg : W.grownBy W' row) (hr : ∀ r, row = some r → B ≤ r ∧ ∃ o : Obj, W.heap[r]? = some o ∧ o.isCells = false) : Keep w.heap.size S w W' :=
  h.grown hg h.size (fun k e => .inl (Nat.le_trans hB (hr k e).1))
theorem row_own {base size n : Nat} {e : TypeId} {v : Value} {xs : List Value} (h : W.ownsRow base e size v n xs) (hg : W.grownBy W' row) (hr : ∀ r, row = some r → B ≤ r ∧ ∃ o : Obj, W.heap[r]? = some o ∧ o.isCells = false) : W'.ownsRow base e size v n xs :=
  h.kept hg (by
    cases hv : v.ownBlock with
    | none => exact .inl rfl
    | some g =>
      right
      intro e
      obtain ⟨_, cur, hc⟩ := own_cell h hv
      obtain ⟨_, o, ho, hoc⟩ := hr g e.symm
      rw [hc] at ho
      cases ho
      cases hoc)
theorem RJ.own (h : RJ w S r ev now A n c Aw nw cw M D W) (hB : w.heap.size ≤ B) (hg : W.grownBy W' row) (hr : ∀ r, row = some r → B ≤ r ∧ ∃ o : Obj, W.heap[r]? = some o ∧ o.isCells = false) : RJ w S r ev now A n c Aw nw cw M D W' := by
  obtain ⟨v, h1, h2⟩ := h.due
  obtain ⟨A1, c1, q1, _⟩ := h.pn.ex
  have q2 := lies_own q1 hg hr
  have q3 : W'.heap[r]? = W.heap[r]? := Eq.trans q2 (Eq.symm q1)
  exact ⟨pn_own h.pn hg hr, (World.cell?_of_block q3).trans h.hd, lies_own h.b3 hg hr, lies_own h.b4 hg hr, lies_own h.b5 hg hr, ⟨v, lies_own h1 hg hr, row_own h2 hg hr⟩, lies_own h.bo hg hr, keep_own h.keep hB hg hr⟩
/-- the rows as they lie meanwhile -/
theorem RJ.rows (h : RJ w S r ev now A n c Aw nw cw M D W) : Lies W r 94 (headCs r ev A M.length c) ∧ find.RowsAt W A c M ∧ (∀ g, rowOf A = some g → S g) ∧ M.length = n := by
  obtain ⟨A', c', h1, h2, h3⟩ := h.pn.ex
  have e := h1.cell 2
  rw [h.hd] at e
  simp at e
  obtain ⟨rfl, hn, rfl⟩ := e
  exact ⟨h1, h2, h3, hn.symm⟩
/-- a row is turned -/
theorem RJ.turn (h : RJ w S r ev now A n c Aw nw cw M D W) (hS : ∀ g, S g → g < w.heap.size) {g k : Nat} (hA : A = some ⟨g, 0, none⟩) {x : Int × Int} (hk : M[k]? = some x) (v : Int) :
    W.frozen? ⟨g, k * 2 + 1, none⟩ = false ∧ RJ w S r ev now A n c Aw nw cw (M.set k (x.1, v)) D (W.setCell ⟨g, k * 2 + 1, none⟩ (.int .i64 v)) := by
  obtain ⟨hl, hrow, hAS, hMn⟩ := h.rows
  subst hA
  have hgS : S g := hAS g rfl
  have hgl := hS g hgS
  have hne : r ≠ g := Ne.symm (own_apart hrow rfl hl (by decide))
  obtain ⟨u, h1, h2⟩ := h.due
  have hcr : (W.setCell ⟨g, k * 2 + 1, none⟩ (.int .i64 v)).heap[r]? = W.heap[r]? := Below.heap_setCell _ _ _ _ hne
  refine ⟨World.ownsRow.frozenAt hrow _, ⟨⟨some ⟨g, 0, none⟩, c, ?_, RowsAt.set hrow hk v, hAS⟩, h.pn.own, asc_set h.pn.asc hk v, by rw [List.length_set]; exact h.pn.len, h.pn.lo, h.pn.hi⟩, (World.cell?_of_block hcr).trans h.hd,
    h.b3.far (p := ⟨g, k * 2 + 1, none⟩) (by show w.heap.size ≠ g; omega) _, h.b4.far (p := ⟨g, k * 2 + 1, none⟩) (by show w.heap.size + 1 ≠ g; omega) _, h.b5.far (p := ⟨g, k * 2 + 1, none⟩) (by show w.heap.size + 1 + 1 ≠ g; omega) _,
    ⟨u, h1.far (p := ⟨g, k * 2 + 1, none⟩) (by show w.heap.size + 1 + 1 + 1 ≠ g; omega) _, own_far h2 _ (by show g < _; omega) _⟩, h.bo.far (p := ⟨g, k * 2 + 1, none⟩) (by show w.heap.size + 1 + 1 + 1 + 1 ≠ g; omega) _, h.keep.setCell (p := ⟨g, k * 2 + 1, none⟩) (.inr hgS) _⟩
  rw [List.length_set]
  exact hl.far (p := ⟨g, k * 2 + 1, none⟩) hne _
end

theorem infoInt : (Try.prog.info? 3).map (fun i => (i.zero, i.size, i.bytes)) = some (some (.int .i64 0), 1, 8) := by kernel_rfl
theorem append_int {W : World} {B : Nat} {v : Value} {n : Nat} {xs : List Int} (h : W.ownsRow B 3 1 v n (I8 xs)) (b : Nat) (x : Int) (hb : Lies W b 3 #[.int .i64 x]) (hn : n ≤ 1000) (hB : B ≤ W.heap.size) :
    ∃ A' c' W', (Builtin.append_ #[47, 47] 47 #[v, .slice (some ⟨b, 0, none⟩) 1 1]).run Try.prog W = .ok (.slice A' (n + 1) c') W' ∧ W'.ownsRow B 3 1 (.slice A' (n + 1) c') (n + 1) (I8 (xs ++ [x])) ∧ W.grownBy W' v.ownBlock := by
  obtain ⟨i0, hinf, hz0, hz1, hz2⟩ := info_parts infoInt
  obtain ⟨g, cap, w', hr, ho, hg, hat, _⟩ := run_append_lies (P := Try.prog) W 47 47 B 3 i0 (.int .i64 0) 1 8 Try.underlying47 hinf hz0 hz1 hz2 rfl (by decide) _ _ _ h ⟨b, 0, none⟩ 1 1 [.int .i64 x] rfl
    (fun j u hu => by
      rw [Addr.add_lit, Nat.zero_add, hb.cell]
      match j, hu with
      | 0, hu => simpa using hu) (by simp [Value.oneCell']) (by decide) (by unfold maxLen; omega) (by omega) hB _ rfl
  have e : I8 (xs ++ [x]) = I8 xs ++ [.int .i64 x] := by simp [I8]
  exact ⟨some ⟨g, 0, none⟩, cap, w', hr, by rw [e]; exact ho, hg⟩

/-- one key more that is due -/
theorem RJ.more {w W : World} {S : Nat → Prop} {r n c nw cw : Nat} {ev now : Int} {A Aw : Option Addr} {M : List (Int × Int)} {D : List Int} (h : RJ w S r ev now A n c Aw nw cw M D W) (hS : ∀ g, S g → g < w.heap.size) (hD : D.length ≤ 64) (key : Int) :
    ∃ (v : Value) (A' : Option Addr) (c' : Nat) (W2 : World), W.cell? ⟨w.heap.size + 1 + 1 + 1, 0, none⟩ = some v ∧ (Builtin.append_ #[47, 47] 47 #[v, .slice (some ⟨W.heap.size, 0, none⟩) 1 1]).run Try.prog (W.alloc (.cells #[.int .i64 key] 3)) = .ok (.slice A' (D.length + 1) c') W2 ∧
      W2.cell? ⟨w.heap.size + 1 + 1 + 1, 0, none⟩ = some v ∧ W2.frozen? ⟨w.heap.size + 1 + 1 + 1, 0, none⟩ = false ∧ RJ w S r ev now A n c Aw nw cw M (D ++ [key]) (W2.setCell ⟨w.heap.size + 1 + 1 + 1, 0, none⟩ (.slice A' (D.length + 1) c')) ∧
      KeepsOthers W (W2.setCell ⟨w.heap.size + 1 + 1 + 1, 0, none⟩ (.slice A' (D.length + 1) c')) := by
  obtain ⟨v, h1, h2⟩ := h.due
  have hbo := h.bo.lt
  have hb : Below W.heap.size W (W.alloc (.cells #[.int .i64 key] 3)) := (Below.refl _ W).alloc (Nat.le_refl _) _
  obtain ⟨A', c', W2, hr, ho, hg⟩ := append_int (own_below h2 hb) W.heap.size key (Lies.new W _ _) (by omega) (by simp; omega)
  have hW1 := h.below hb
  have hrow : ∀ g, v.ownBlock = some g → w.heap.size + 5 ≤ g := fun g e => (own_cell h2 e).1
  have lk : ∀ {g : Nat} {t : TypeId} {cs : Array Value}, Lies (W.alloc (.cells #[.int .i64 key] 3)) g t cs → g < w.heap.size + 5 → Lies W2 g t cs := fun hl hlt => hl.grown hg (fun e => by have := hrow _ e.symm; omega)
  obtain ⟨v', g1, g2⟩ := hW1.due
  have g1' := lk g1 (by omega)
  have hvv : v' = v := by
    have e1 := g1.cell 0
    have e2 := (h1.below hb h1.lt).cell 0
    rw [e1] at e2
    simpa using e2
  rw [hvv] at g1'
  have hpn : Pn W2 S r ev M := hW1.pn.keep (T := fun g => w.heap.size + 5 ≤ g) ⟨hg.os, hg.tape, hg.output, hg.size, fun k hk hs => hg.block k hk (fun e => hs (hrow k e.symm))⟩ (fun g _ hs ht => by have := hS g hs; omega)
  have hkp : Keep w.heap.size S w W2 := hW1.keep.grown hg hW1.keep.size (fun k e => .inl (by have := hrow k e; omega))
  refine ⟨v, A', c', W2, h1.cell 0, hr, g1'.cell 0, g1'.frozen 0, ?_, ?_⟩
  · have hl2 := g1'.lt
    obtain ⟨A1, c1, p1, p2, p3⟩ := hpn.ex
    have hrb := hS r hpn.own
    have hcr : (W2.setCell ⟨w.heap.size + 1 + 1 + 1, 0, none⟩ (.slice A' (D.length + 1) c')).heap[r]? = (W.alloc (.cells #[.int .i64 key] 3)).heap[r]? := (Below.heap_setCell _ _ _ _ (by show r ≠ w.heap.size + 1 + 1 + 1; omega)).trans (hg.block r hW1.pn.lt (fun e => by have := hrow r e.symm; omega))
    refine ⟨⟨⟨A1, c1, p1.far (p := ⟨w.heap.size + 1 + 1 + 1, 0, none⟩) (by show r ≠ w.heap.size + 1 + 1 + 1; omega) _, RowsAt.of_same p2 (fun g e => Below.heap_setCell _ _ _ _ (by rw [rowOf_eq] at e; have := hS g (p3 g e); show g ≠ w.heap.size + 1 + 1 + 1; omega)), p3⟩, hpn.own, hpn.asc, hpn.len, hpn.lo, hpn.hi⟩, (World.cell?_of_block hcr).trans hW1.hd,
      (lk hW1.b3 (by omega)).far (p := ⟨w.heap.size + 1 + 1 + 1, 0, none⟩) (by show w.heap.size ≠ w.heap.size + 1 + 1 + 1; omega) _, (lk hW1.b4 (by omega)).far (p := ⟨w.heap.size + 1 + 1 + 1, 0, none⟩) (by show w.heap.size + 1 ≠ w.heap.size + 1 + 1 + 1; omega) _, (lk hW1.b5 (by omega)).far (p := ⟨w.heap.size + 1 + 1 + 1, 0, none⟩) (by show w.heap.size + 1 + 1 ≠ w.heap.size + 1 + 1 + 1; omega) _,
      ⟨_, g1'.set 0 _, ?_⟩, (lk hW1.bo (by omega)).far (p := ⟨w.heap.size + 1 + 1 + 1, 0, none⟩) (by show w.heap.size + 1 + 1 + 1 + 1 ≠ w.heap.size + 1 + 1 + 1; omega) _, hkp.setCell (p := ⟨w.heap.size + 1 + 1 + 1, 0, none⟩) (.inl (by show w.heap.size ≤ w.heap.size + 1 + 1 + 1; omega)) _⟩
    have := own_far ho ⟨w.heap.size + 1 + 1 + 1, 0, none⟩ (by show w.heap.size + 1 + 1 + 1 < _; omega) (.slice A' (D.length + 1) c')
    simpa using this
  · refine ((KeepsOthers.alloc W _).trans (KeepsOthers.of_grownBy hg fun j o ej hj => ?_)).trans (KeepsOthers.setCell _ _ _)
    obtain ⟨_, cur, hc⟩ := own_cell (own_below h2 hb) ej
    rw [hc] at hj
    cases hj
    rfl

theorem wpListIn_append_eq {F : Fence} {nF : Nat} {P : Program} {ops : Array Oper} {rest : List Oper} {o : Oper} {a : Act} {w w' : World} {Q : Exit → Act → World → Prop} {v u v' : Value} (hg : o.guard = none) (s x : Operand) (t tn : TypeId)
    (hop : o.op = Op.call { callee := Callee.builtin Builtin.append, args := #[s, x], argTypes := #[t, tn] }) (hty : o.type = t) (hs : a.eval s = v) (hx : a.eval x = u)
    (hrun : (Builtin.append_ #[t, tn] t #[v, u]).run P w = .ok v' w') (h : wpListIn F nF P ops Q rest (a.put o.dst v') w') : wpListIn F nF P ops Q (o :: rest) a w := by
  refine wpListIn_plain hg fun K hK' => ?_
  unfold Oper.wpIn
  refine ⟨by simp [Oper.about, hop, resolve, Target.leads, Sem.run_pure], ?_⟩
  rw [Oper.semAt_plain F _ _ (by rw [hop]; intro c hc'; cases hc')]
  simp [execOp, hop, hty, resolve, invoke, builtin, hs, hx, hrun, Result.andThen]
  exact hK' _ _ h
end Go.Proofs.Ytpidjekabnnmcaa.pl
