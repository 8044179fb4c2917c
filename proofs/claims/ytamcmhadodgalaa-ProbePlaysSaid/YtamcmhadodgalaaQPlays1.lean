/-
  Given for 'Rows.ProbePlaysSaid': the plan and the document's plan side by side, and each act done to both. No condition but those of the theorems.
-/
import Derived.Test.YtamcmhadodgalaaQActs
namespace Go.Proofs.Ytamcmhadodgalaa.plays
open Go.RowKit mem find pb pl model
set_option linter.unusedVariables false

/-- both, side by side, with the same rows -/
structure Pl (w : World) (S T : Nat → Prop) (r q : Nat) (ev : Int) (R : List (Int × Int)) (W : World) : Prop where
  p : Pn W S r ev R
  m : MPn W T q ev R
  hS : ∀ g, S g → w.heap.size ≤ g ∧ g < W.heap.size
  hT : ∀ g, T g → w.heap.size ≤ g ∧ g < W.heap.size
  dis : ∀ g, S g → T g → False
  below : Below w.heap.size w W
/-- a block that is neither's -/
structure Free (S T : Nat → Prop) (g : Nat) : Prop where
  s : ¬ S g
  t : ¬ T g

section
variable {w W W' W'' : World} {S T : Nat → Prop} {r q : Nat} {ev ev' : Int} {R R' : List (Int × Int)}
theorem Pl.mid (h : Pl w S T r q ev R W) (hk : Keep W.heap.size S W W') : MPn W' T q ev R := h.m.keep hk (fun g _ ht hs => h.dis g hs ht)
theorem pl_step (h : Pl w S T r q ev R W) (hd : Did S r ev' R' W W') (hm : MDid T q ev' R' W' W'') :
    ∃ S' T', Pl w S' T' r q ev' R' W'' ∧ ∀ g, g < W.heap.size → Free S T g → Free S' T' g ∧ W''.heap[g]? = W.heap[g]? := by
  have hz1 := hd.keep.size
  have hz2 := hm.keep.size
  refine ⟨fun g => (S g ∨ W.heap.size ≤ g) ∧ g < W'.heap.size, fun g => (T g ∨ W'.heap.size ≤ g) ∧ g < W''.heap.size,
    ⟨hd.pn.bounded.keep hm.keep (fun g hg e ht => ?_), hm.pn.bounded, fun g e => ?_, fun g e => ?_, fun g e1 e2 => ?_, ?_⟩, fun g hg hf => ⟨⟨fun e => ?_, fun e => ?_⟩, ?_⟩⟩
  · rcases e.1 with e1 | e1
    · exact h.dis g e1 ht
    · have := (h.hT g ht).2; omega
  · refine ⟨?_, by have := e.2; omega⟩
    rcases e.1 with e1 | e1
    · exact (h.hS g e1).1
    · exact Nat.le_trans h.below.size e1
  · refine ⟨?_, e.2⟩
    rcases e.1 with e1 | e1
    · exact (h.hT g e1).1
    · exact Nat.le_trans h.below.size (by omega)
  · rcases e2.1 with t | t
    · rcases e1.1 with s | s
      · exact h.dis g s t
      · have := (h.hT g t).2; omega
    · have := e1.2; omega
  · have b1 := h.below.trans (hd.keep.below h.below.size (fun k hk e => by have := (h.hS k e).1; omega))
    exact b1.trans (hm.keep.below b1.size (fun k hk e => by have := (h.hT k e).1; omega))
  · rcases e.1 with e1 | e1
    · exact hf.s e1
    · omega
  · rcases e.1 with e1 | e1
    · exact hf.t e1
    · omega
  · exact (hm.keep.block g (by omega) hf.t).trans (hd.keep.block g hg hf.s)
theorem Pl.later (h : Pl w S T r q ev R W) (hb : Below W.heap.size W W') : Pl w S T r q ev R W' :=
  ⟨h.p.below hb, h.m.below hb, fun g e => ⟨(h.hS g e).1, Nat.lt_of_lt_of_le (h.hS g e).2 hb.size⟩, fun g e => ⟨(h.hT g e).1, Nat.lt_of_lt_of_le (h.hT g e).2 hb.size⟩, h.dis, h.below.trans (hb.mono h.below.size)⟩
theorem pn_far (h : Pn W S r ev R) {p : Addr} (hp : ¬ S p.block) (u : Value) : Pn (W.setCell p u) S r ev R := by
  obtain ⟨A, c, h1, h2, h3⟩ := h.ex
  refine ⟨⟨A, c, h1.far (fun e => hp (e ▸ h.own)) u, ?_, h3⟩, h.own, h.asc, h.len, h.lo, h.hi⟩
  exact find.RowsAt.of_same h2 (fun g e => Below.heap_setCell W p u g (fun e2 => hp (e2 ▸ h3 g (by rw [rowOf_eq] at e; exact e))))
theorem mpn_far (h : MPn W T q ev R) {p : Addr} (hp : ¬ T p.block) (u : Value) : MPn (W.setCell p u) T q ev R := by
  obtain ⟨A, c, h1, h2, h3⟩ := h.ex
  refine ⟨⟨A, c, h1.far (fun e => hp (e ▸ h.own)) u, ?_, h3⟩, h.own, h.len⟩
  exact model.RowsAt.of_same h2 (fun g e => Below.heap_setCell W p u g (fun e2 => hp (e2 ▸ h3 g (by rw [rowOf_eq] at e; exact e))))
theorem Pl.far (h : Pl w S T r q ev R W) {p : Addr} (hf : Free S T p.block) (hw : w.heap.size ≤ p.block) (u : Value) : Pl w S T r q ev R (W.setCell p u) :=
  ⟨pn_far h.p hf.s u, mpn_far h.m hf.t u, fun g e => by have := h.hS g e; simpa [World.setCell] using this, fun g e => by have := h.hT g e; simpa [World.setCell] using this, h.dis, h.below.setCell hw u⟩
end

/-- what holds between two acts -/
structure PlI (w : World) (r q : Nat) (W : World) : Prop where
  ex : ∃ (S T : Nat → Prop) (ev : Int) (R : List (Int × Int)), Pl w S T r q ev R W
/-- the same, and the act's box -/
structure PlX (w : World) (r q X : Nat) (kd n : Int) (vw : Value) (W : World) : Prop where
  ex : ∃ (S T : Nat → Prop) (ev : Int) (R : List (Int × Int)), Pl w S T r q ev R W ∧ Lies W X 33 #[.int .u8 kd, .int .i64 n, vw] ∧ Free S T X

section
variable {w W W' W'' : World} {S T : Nat → Prop} {r q X : Nat} {ev ev' kd n : Int} {vw : Value} {R R' : List (Int × Int)}
theorem PlI.below (h : PlI w r q W) : Below w.heap.size w W := by obtain ⟨S, T, ev, R, h1⟩ := h.ex; exact h1.below
theorem PlX.cell1 (h : PlX w r q X kd n vw W) : W.cell? ⟨X, 1, none⟩ = some (.int .i64 n) := by obtain ⟨S, T, ev, R, _, hx, _⟩ := h.ex; exact hx.cell 1
theorem PlX.cell2 (h : PlX w r q X kd n vw W) : W.cell? ⟨X, 2, none⟩ = some vw := by obtain ⟨S, T, ev, R, _, hx, _⟩ := h.ex; exact hx.cell 2
theorem PlX.toI (h : PlX w r q X kd n vw W) : PlI w r q W := by obtain ⟨S, T, ev, R, h1, _⟩ := h.ex; exact ⟨S, T, ev, R, h1⟩
theorem PlX.later (h : PlX w r q X kd n vw W) (hb : Below W.heap.size W W') : PlX w r q X kd n vw W' := by
  obtain ⟨S, T, ev, R, h1, hx, hf⟩ := h.ex
  exact ⟨S, T, ev, R, h1.later hb, hx.below hb hx.lt, hf⟩
/-- the act's box, just made -/
theorem PlI.box (h : PlI w r q W) (kd n : Int) (vw : Value) : PlX w r q W.heap.size kd n vw (W.alloc (.cells #[.int .u8 kd, .int .i64 n, vw] 33)) := by
  obtain ⟨S, T, ev, R, h1⟩ := h.ex
  exact ⟨S, T, ev, R, h1.later ((Below.refl _ W).alloc (Nat.le_refl _) _), Lies.new W 33 _, ⟨fun e => Nat.lt_irrefl _ (h1.hS _ e).2, fun e => Nat.lt_irrefl _ (h1.hT _ e).2⟩⟩
theorem plx_step (h : Pl w S T r q ev R W) (hx : Lies W X 33 #[.int .u8 kd, .int .i64 n, vw]) (hf : Free S T X) (hd : Did S r ev' R' W W') (hm : MDid T q ev' R' W' W'') : PlX w r q X kd n vw W'' := by
  obtain ⟨S', T', hpl, hfree⟩ := pl_step h hd hm
  obtain ⟨hf', he⟩ := hfree X hx.lt hf
  exact ⟨S', T', ev', R', hpl, hx.of_same he, hf'⟩
theorem cell_did (hx : Lies W X 33 #[.int .u8 kd, .int .i64 n, vw]) (hf : Free S T X) (hk : Keep W.heap.size S W W') : W'.cell? ⟨X, 1, none⟩ = some (.int .i64 n) := (hx.keep hk hx.lt hf.s).cell 1

/-- what one call, and then the document's, leave: the same answer -/
structure Both1 (w : World) (r q X : Nat) (kd n : Int) (vw : Value) (f2 : Nat) (args2 : Array Value) (e : Ending) (W' : World) : Prop where
  ex : ∃ g : Int, e = .returned (.int .i64 g) ∧ W'.cell? ⟨X, 1, none⟩ = some (.int .i64 n) ∧ Calls Try.prog f2 args2 W' fun e' W'' => e' = .returned (.int .i64 g) ∧ PlX w r q X kd n vw W''

theorem add_both (h : PlX w r q X kd n vw W) : Calls Try.prog 10 #[.pointer (some ⟨r, 0, none⟩), .int .i64 n] W (Both1 w r q X kd n vw 11 #[.pointer (some ⟨q, 0, none⟩), .int .i64 n]) := by
  obtain ⟨S, T, ev, R, hpl, hx, hf⟩ := h.ex
  have same : ∀ {W' : World}, Below W.heap.size W W' → ∀ g : Int, Calls Try.prog 11 #[.pointer (some ⟨q, 0, none⟩), .int .i64 n] W' (fun e w' => e = .returned (.int .i64 g) ∧ W' = w') → Both1 w r q X kd n vw 11 #[.pointer (some ⟨q, 0, none⟩), .int .i64 n] (.returned (.int .i64 g)) W' := fun {W'} hb g hc => by
    have hd := did_same hpl.p hb
    refine ⟨g, rfl, cell_did hx hf hd.keep, hc.mono ?_⟩
    rintro e W'' ⟨rfl, rfl⟩
    exact ⟨rfl, plx_step hpl hx hf hd (mdid_same (hpl.mid hd.keep) (Below.refl _ _))⟩
  by_cases hk : idx n R < R.length
  · refine (add_has hpl.p hk).mono ?_
    rintro e W' ⟨rfl, hb⟩
    have hm := hpl.mid (did_same hpl.p hb).keep
    by_cases hi : n < 1 ∨ 1099511627775 < n
    · exact same hb 2 (madd_wrong hm hi)
    · exact same hb 2 (madd_has hm (by omega) (by omega) hk)
  · by_cases hi : n < 1 ∨ 1099511627775 < n
    · refine (add_wrong hpl.p hk hi).mono ?_
      rintro e W' ⟨rfl, hb⟩
      exact same hb 2 (madd_wrong (hpl.mid (did_same hpl.p hb).keep) hi)
    · by_cases hfl : R.length = 64
      · refine (add_full hpl.p hk (by omega) (by omega) hfl).mono ?_
        rintro e W' ⟨rfl, hb⟩
        exact same hb 4 (madd_full (hpl.mid (did_same hpl.p hb).keep) (by omega) (by omega) hk hfl)
      · have hlt : R.length < 64 := by have := hpl.p.len; omega
        refine (add_ok hpl.p hk (by omega) (by omega) hlt).mono ?_
        rintro e W' ⟨rfl, hd⟩
        refine ⟨0, rfl, cell_did hx hf hd.keep, (madd_ok (hpl.mid hd.keep) (by omega) (by omega) hk hlt).mono ?_⟩
        rintro e W'' ⟨rfl, hm⟩
        exact ⟨rfl, plx_step hpl hx hf hd hm⟩

theorem drop_both (h : PlX w r q X kd n vw W) : Calls Try.prog 12 #[.pointer (some ⟨r, 0, none⟩), .int .i64 n] W (Both1 w r q X kd n vw 13 #[.pointer (some ⟨q, 0, none⟩), .int .i64 n]) := by
  obtain ⟨S, T, ev, R, hpl, hx, hf⟩ := h.ex
  by_cases hk : idx n R < R.length
  · refine (drop_ok hpl.p hk).mono ?_
    rintro e W' ⟨rfl, hd⟩
    refine ⟨0, rfl, cell_did hx hf hd.keep, (mdrop_ok (hpl.mid hd.keep) hk).mono ?_⟩
    rintro e W'' ⟨rfl, hm⟩
    exact ⟨rfl, plx_step hpl hx hf hd hm⟩
  · refine (drop_none hpl.p hk).mono ?_
    rintro e W' ⟨rfl, hb⟩
    have hd := did_same hpl.p hb
    refine ⟨30, rfl, cell_did hx hf hd.keep, (mdrop_none (hpl.mid hd.keep) hk).mono ?_⟩
    rintro e W'' ⟨rfl, rfl⟩
    exact ⟨rfl, plx_step hpl hx hf hd (mdid_same (hpl.mid hd.keep) (Below.refl _ _))⟩

theorem every_both (h : PlX w r q X kd n vw W) : Calls Try.prog 14 #[.pointer (some ⟨r, 0, none⟩), .int .i64 n] W (Both1 w r q X kd n vw 15 #[.pointer (some ⟨q, 0, none⟩), .int .i64 n]) := by
  obtain ⟨S, T, ev, R, hpl, hx, hf⟩ := h.ex
  by_cases hi : n < 1 ∨ 1000 < n
  · refine (every_no hpl.p hi).mono ?_
    rintro e W' ⟨rfl, rfl⟩
    have hd := did_same hpl.p (Below.refl W.heap.size W)
    refine ⟨2, rfl, cell_did hx hf hd.keep, (mevery_no hpl.m hi).mono ?_⟩
    rintro e W'' ⟨rfl, rfl⟩
    exact ⟨rfl, plx_step hpl hx hf hd (mdid_same hpl.m (Below.refl _ _))⟩
  · refine (every_ok hpl.p (by omega) (by omega)).mono ?_
    rintro e W' ⟨rfl, hd⟩
    refine ⟨0, rfl, cell_did hx hf hd.keep, (mevery_ok (hpl.mid hd.keep) (by omega) (by omega)).mono ?_⟩
    rintro e W'' ⟨rfl, hm⟩
    exact ⟨rfl, plx_step hpl hx hf hd hm⟩
end

/-- a told row, of which the first j are written over: the caller's own -/
structure XI (w : World) (r q : Nat) (A : Option Addr) (nx j : Nat) (W : World) : Prop where
  ex : ∃ (S T : Nat → Prop) (ev : Int) (R : List (Int × Int)), Pl w S T r q ev R W ∧ (0 < nx → ∃ (D : Nat) (cs : Array Value), A = some ⟨D, 0, none⟩ ∧ Lies W D 3 cs ∧ w.heap.size ≤ D ∧ Free S T D ∧ nx ≤ cs.size)
theorem XI.toI {w W : World} {r q nx j : Nat} {A : Option Addr} (h : XI w r q A nx j W) : PlI w r q W := by obtain ⟨S, T, ev, R, h1, _⟩ := h.ex; exact ⟨S, T, ev, R, h1⟩
theorem XI.round {w W : World} {r q nx j : Nat} {A : Option Addr} (h : XI w r q A nx j W) (hj : j < nx) : ∃ (D : Nat) (u : Value), A = some ⟨D, 0, none⟩ ∧ W.cell? ⟨D, j, none⟩ = some u ∧ W.frozen? ⟨D, j, none⟩ = false ∧ XI w r q A nx (j + 1) (W.setCell ⟨D, j, none⟩ (.int .i64 (-5))) := by
  obtain ⟨S, T, ev, R, hpl, hd⟩ := h.ex
  obtain ⟨D, cs, hA, hl, hwD, hf, hcs⟩ := hd (by omega)
  refine ⟨D, cs[j], hA, (hl.cell j).trans (Array.getElem?_eq_getElem (by omega)), hl.frozen j, S, T, ev, R, hpl.far (p := ⟨D, j, none⟩) hf hwD _, fun _ => ⟨D, _, hA, hl.set j _, hwD, hf, by simpa using hcs⟩⟩

theorem own_lies {W : World} {B : Nat} {A : Option Addr} {n c : Nat} {xs : List Int} (h : W.ownsRow B 3 1 (.slice A n c) n (I8 xs)) (hp : 0 < n) : ∃ (D : Nat) (cs : Array Value), A = some ⟨D, 0, none⟩ ∧ Lies W D 3 cs ∧ B ≤ D ∧ n ≤ cs.size := by
  rcases h.2 with ⟨he, h0⟩ | ⟨g', cap, cur, he, hb, hg, hnc, hm, hs, _⟩
  · omega
  · simp only [Value.slice.injEq] at he
    obtain ⟨rfl, _, rfl⟩ := he
    exact ⟨g', cur, rfl, hg, hb, by rw [hs]; omega⟩

/-- the keys of both, and Ints on them -/
theorem keys_both {w W : World} {r q : Nat} (h : PlI w r q W) : Calls Try.prog 19 #[.pointer (some ⟨r, 0, none⟩)] W fun e W1 => ∃ (A : Option Addr) (n c : Nat), e = .returned (.slice A n c) ∧ n ≤ 64 ∧
    Calls Try.prog 20 #[.pointer (some ⟨q, 0, none⟩)] W1 fun e W2 => ∃ (A2 : Option Addr) (c2 : Nat), e = .returned (.slice A2 n c2) ∧
      Calls Try.prog 17 #[.slice A n c, .slice A2 n c2] W2 fun e W3 => e = .returned (.bool true) ∧ XI w r q A n 0 W3 := by
  obtain ⟨S, T, ev, R, hpl⟩ := h.ex
  refine (keys_any hpl.p).mono ?_
  rintro e W1 ⟨A, c, rfl, ho, hb⟩
  have hpl1 := hpl.later hb
  have h64 : (R.map (·.1)).length ≤ 64 := by rw [List.length_map]; exact hpl.p.len
  refine ⟨A, _, c, rfl, h64, (mkeys_any hpl1.m).mono ?_⟩
  rintro e W2 ⟨A2, c2, rfl, ho2, hb2⟩
  have ho' := own_below ho hb2
  refine ⟨A2, c2, rfl, (ints_same (RowAt.of_own ho') (RowAt.of_own ho2) rfl (by omega)).mono ?_⟩
  rintro e W3 ⟨rfl, hst⟩
  have hb3 := hst.below W2.heap.size
  refine ⟨rfl, S, T, ev, R, (hpl1.later hb2).later hb3, fun hp => ?_⟩
  obtain ⟨D, cs, hA, hl, hB, hcs⟩ := own_lies (own_below ho' hb3) hp
  have hz := hpl.below.size
  exact ⟨D, cs, hA, hl, by omega, ⟨fun e => by have := (hpl.hS D e).2; omega, fun e => by have := (hpl.hT D e).2; omega⟩, hcs⟩

/-- a round of both, and Ints on what they tell, and on what was handed in -/
theorem round_both {w W W1 : World} {r q X : Nat} {kd n : Int} {Aw A' : Option Addr} {nw cw c' : Nat} {ws : List Int} (h : PlX w r q X kd n (.slice Aw nw cw) W) (hb1 : Below W.heap.size W W1) (hn : ws.length = nw) (hl : nw ≤ 100) (hw : RowAt w (fun g => g < w.heap.size) Aw (I8 ws)) (ho : W1.ownsRow W.heap.size 3 1 (.slice A' nw c') nw (I8 ws)) :
    Calls Try.prog 16 #[.pointer (some ⟨r, 0, none⟩), .int .i64 n, .slice A' nw c'] W1 fun e W2 => ∃ (Ax : Option Addr) (nx cx : Nat), e = .returned (.slice Ax nx cx) ∧ nx ≤ 64 ∧ W2.cell? ⟨X, 1, none⟩ = some (.int .i64 n) ∧ W2.cell? ⟨X, 2, none⟩ = some (.slice Aw nw cw) ∧
      Calls Try.prog 18 #[.pointer (some ⟨q, 0, none⟩), .int .i64 n, .slice Aw nw cw] W2 fun e W3 => ∃ (Ay : Option Addr) (cy : Nat), e = .returned (.slice Ay nx cy) ∧
        Calls Try.prog 17 #[.slice Ax nx cx, .slice Ay nx cy] W3 fun e W4 => e = .returned (.bool true) ∧ W4.cell? ⟨X, 2, none⟩ = some (.slice Aw nw cw) ∧
          Calls Try.prog 17 #[.slice A' nw c', .slice Aw nw cw] W4 fun e W5 => e = .returned (.bool true) ∧ XI w r q Ax nx 0 W5 := by
  obtain ⟨S, T, ev, R, hpl, hx, hf⟩ := h.ex
  have hpl1 := hpl.later hb1
  have hx1 := hx.below hb1 hx.lt
  have hz := hpl.below.size
  have hz1 := hb1.size
  have hxl := hx.lt
  subst hn
  -- the row that was handed in, and its copy, at any later world that keeps them
  have own1 : ∀ {W' : World}, Keep W1.heap.size (fun g => S g ∨ T g) W1 W' → RowAt W' (fun _ => True) A' (I8 ws) ∧ RowAt W' (fun _ => True) Aw (I8 ws) := fun {W'} hk => by
    constructor
    · refine ((RowAt.of_own ho).keep fun g hg => hk.block g hg.2.1 (fun e => ?_)).weak fun g hg => trivial
      rcases e with e | e
      · have := (hpl.hS g e).2; have := hg.1; omega
      · have := (hpl.hT g e).2; have := hg.1; omega
    · refine ((hw.keep fun g hg => (hpl1.below.block g hg)).keep fun g hg => hk.block g (by omega) (fun e => ?_)).weak fun g hg => trivial
      rcases e with e | e
      · have := (hpl.hS g e).1; omega
      · have := (hpl.hT g e).1; omega
  by_cases ht : n < 0 ∨ 1099511626775 < n
  · refine (round_out hpl1.p n ht A' _ c').mono ?_
    rintro e W2 ⟨rfl, hb2⟩
    have hx2 := hx1.below hb2 hx1.lt
    refine ⟨none, 0, 0, rfl, by omega, hx2.cell 1, hx2.cell 2, (mround_out _ W2 n ht Aw _ cw).mono ?_⟩
    rintro e W3 ⟨rfl, rfl⟩
    refine ⟨none, 0, rfl, (ints_same (xs := []) (ok1 := fun _ => True) (ok2 := fun _ => True) RowAt.nil RowAt.nil rfl (by simp)).mono ?_⟩
    rintro e W4 ⟨rfl, hst4⟩
    have hb4 := hb2.trans ((hst4.below W2.heap.size).mono hb2.size)
    obtain ⟨k1, k2⟩ := own1 (Keep.of_below hb4 _)
    refine ⟨rfl, (hx1.below hb4 hx1.lt).cell 2, (ints_same k1 k2 rfl (by omega)).mono ?_⟩
    rintro e W5 ⟨rfl, hst5⟩
    exact ⟨rfl, S, T, ev, R, (hpl1.later hb4).later (hst5.below _), fun hp => absurd hp (by omega)⟩
  · have ra : RowAt W1 (okIn S W1) A' (I8 ws) := (RowAt.of_own ho).weak fun g hg => ⟨hg.2.1, fun e => by have := (hpl.hS g e).2; have := hg.1; omega⟩
    refine (round_any (cw := c') hpl1.p ra (by omega) (by omega) (by omega)).mono ?_
    rintro e W2 ⟨Ax, cx, rfl, ox, hp2, hk2⟩
    have hx2 := hx1.keep hk2 hx1.lt hf.s
    have hm2 := hpl1.mid hk2
    have hz2 := hk2.size
    have rw2 : RowAt W2 (fun g => g < W2.heap.size ∧ ¬ T g) Aw (I8 ws) := ((hw.keep fun g hg => (hpl1.below.block g hg)).keep fun g hg => hk2.block g (by omega) (fun e => by have := (hpl.hS g e).1; omega)).weak fun g hg => ⟨by omega, fun e => by have := (hpl.hT g e).1; omega⟩
    have hdl := dues_len n ws R
    have h64 := hpl.p.len
    refine ⟨Ax, _, cx, rfl, by omega, hx2.cell 1, hx2.cell 2, (mround_in (cw := cw) hm2 (fun g e => by have := (hpl1.hT g e).2; omega) hpl.p.lo hpl.p.hi rw2 (by omega) (by omega) (by omega)).mono ?_⟩
    rintro e W3 ⟨Ay, cy, rfl, oy, hm3, hk3⟩
    have hz3 := hk3.size
    have hp3 := hp2.keep hk3 (fun g _ e e' => hpl.dis g e e')
    have rx : RowAt W3 (fun _ => True) Ax (I8 (dues n ws R)) := ((RowAt.of_own ox).keep fun g hg => hk3.block g hg.2.1 (fun e => by have := (hpl1.hT g e).2; have := hg.1; omega)).weak fun g hg => trivial
    refine ⟨Ay, cy, rfl, (ints_same rx (RowAt.of_own oy) rfl (by omega)).mono ?_⟩
    rintro e W4 ⟨rfl, hst4⟩
    have hk13 : Keep W1.heap.size (fun g => S g ∨ T g) W1 W3 := (hk2.mono (Nat.le_refl _) (fun _ _ e => .inl e)).trans (hk3.mono hz2 (fun _ _ e => .inr e))
    have hk14 := hk13.trans (Keep.of_below ((hst4.below W3.heap.size).mono hk13.size) (fun g => S g ∨ T g))
    obtain ⟨k1, k2⟩ := own1 hk14
    have hx3 := hx2.keep hk3 hx2.lt hf.t
    have hx4 := hx3.below (hst4.below _) hx3.lt
    refine ⟨rfl, hx4.cell 2, (ints_same k1 k2 rfl (by omega)).mono ?_⟩
    rintro e W5 ⟨rfl, hst5⟩
    have hst := hst4.trans hst5
    have b12 := hpl1.below.trans (hk2.below hpl1.below.size (fun k hk e => by have := (hpl.hS k e).1; omega))
    have b13 := b12.trans (hk3.below b12.size (fun k hk e => by have := (hpl.hT k e).1; omega))
    have hpl3 : Pl w S T r q ev (pb.round n ev ws R) W3 := ⟨hp3, hm3, fun g e => ⟨(hpl.hS g e).1, by have := (hpl1.hS g e).2; omega⟩, fun g e => ⟨(hpl.hT g e).1, by have := (hpl1.hT g e).2; omega⟩, hpl.dis, b13⟩
    refine ⟨rfl, S, T, ev, _, hpl3.later (hst.below _), fun hp => ?_⟩
    obtain ⟨D, cs, hA, hlD, hB, hcs⟩ := own_lies ox hp
    have hDT : ¬ T D := fun e => by have := (hpl1.hT D e).2; omega
    have hl3 := hlD.keep hk3 hlD.lt hDT
    exact ⟨D, cs, hA, hl3.below (hst.below _) hl3.lt, by omega, ⟨fun e => by have := (hpl1.hS D e).2; omega, hDT⟩, hcs⟩

theorem plays_start {w w1 w2 : World} {ev : Int} (hn : News w w.heap.size ev w1) (hm : MNews w1 w1.heap.size ev w2) : PlI w w.heap.size w1.heap.size w2 := by
  have z1 := hn.below.size
  have z2 := hm.below.size
  refine ⟨fun g => w.heap.size ≤ g ∧ g < w1.heap.size, fun g => w1.heap.size ≤ g ∧ g < w2.heap.size, ev, [], hn.pn.bounded.below hm.below, hm.pn.bounded, fun g e => ⟨e.1, by omega⟩, fun g e => ⟨by omega, e.2⟩, fun g e1 e2 => by omega, hn.below.trans (hm.below.mono z1)⟩
end Go.Proofs.Ytamcmhadodgalaa.plays
