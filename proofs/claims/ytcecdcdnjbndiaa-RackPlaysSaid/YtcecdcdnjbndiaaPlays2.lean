/-
  Given for 'Rows.RackPlaysSaid': what holds between two acts, and while the read ids are gone through. No condition but those of the theorems.
-/
import Derived.Test.YtcecdcdnjbndiaaPlays1
import Derived.Test.YtcecdcdnjbndiaaTwice
namespace Go.Proofs.Ytcecdcdnjbndiaa.plays
open Go.RowKit mem find rack model
set_option linter.unusedVariables false

theorem own_below4 {w w' : World} {B size n : Nat} {e : TypeId} {v : Value} {xs : List Value} (h : w.ownsRow B e size v n xs) (hb : Below w.heap.size w w') : w'.ownsRow B e size v n xs :=
  h.kept (row := none) ⟨hb.os, hb.tape, hb.output, hb.size, fun j hj _ => hb.block j hj⟩ (by cases hv : v.ownBlock <;> simp)

/-- what holds between two acts -/
structure PlI (w : World) (r q N : Nat) (first st : Int) (k : Nat) (W : World) : Prop where
  ex : ∃ (S T : Nat → Prop) (R M : List (Int × Int)) (m : Nat), Pl w S T r q N (first + (m : Int) * st) st R M W ∧ m + cnt R (first + (m : Int) * st) ≤ k

section
variable {w W W' W'' : World} {S T : Nat → Prop} {r q N k m X : Nat} {first st kd id v nx : Int} {R R' M M' : List (Int × Int)}
theorem PlI.below (h : PlI w r q N first st k W) : Below w.heap.size w W := by
  obtain ⟨S, T, R, M, m, h1, _⟩ := h.ex
  exact h1.below
/-- the act's box, just made -/
theorem PlI.box (h : PlI w r q N first st k W) (kd id v : Int) : PlX w r q N first st k W.heap.size kd id v (W.alloc (.cells #[.int .u8 kd, .int .i64 id, .int .i64 v] 31)) := by
  obtain ⟨S, T, R, M, m, h1, h2⟩ := h.ex
  exact ⟨S, T, R, M, m, h1.later ((Below.refl _ W).alloc (Nat.le_refl _) _), h2, Lies.new W 31 _, ⟨fun e => Nat.lt_irrefl _ (h1.hS _ e).2, fun e => Nat.lt_irrefl _ (h1.hT _ e).2⟩⟩

theorem plays_start {w1 w2 : World} (hn : News w w.heap.size N first st w1) (hm : MNews w1 w1.heap.size N first st w2) : PlI w w.heap.size w1.heap.size N first st 0 w2 := by
  have z1 := hn.below.size
  have z2 := hm.below.size
  have hr := hn.rk.bounded
  refine ⟨fun g => w.heap.size ≤ g ∧ g < w1.heap.size, fun g => w1.heap.size ≤ g ∧ g < w2.heap.size, [], [], 0, ⟨?_, ?_, fun g e => ⟨e.1, by omega⟩, fun g e => ⟨by omega, e.2⟩, fun g e1 e2 => by omega, ?_, List.Perm.refl _, fun x hx => by simp at hx⟩, by simp [cnt]⟩
  · have := hr.below hm.below
    simpa using this
  · have := hm.rk.bounded
    simpa using this
  · exact hn.below.trans (hm.below.mono z1)

/-- while the read ids are gone through: from j on they are as they were read -/
structure InI (w : World) (r q N : Nat) (first st : Int) (k : Nat) (A : Option Addr) (n j : Nat) (W : World) : Prop where
  ex : ∃ (S T : Nat → Prop) (R M : List (Int × Int)) (m : Nat), Pl w S T r q N (first + (m : Int) * st) st R M W ∧ m + cnt R (first + (m : Int) * st) ≤ k ∧ R.length = n ∧
    (0 < n → ∃ (D : Nat) (cs : Array Value), A = some ⟨D, 0, none⟩ ∧ Lies W D 3 cs ∧ w.heap.size ≤ D ∧ Free S T D ∧ ∀ (i : Nat) (x : Int × Int), j ≤ i → R[i]? = some x → cs[i]? = some (.int .i64 x.1))

theorem mrk_far (h : MRk W T q N nx st M) {p : Addr} (hp : ¬ T p.block) (u : Value) : MRk (W.setCell p u) T q N nx st M := by
  obtain ⟨A, c, h1, h2, h3⟩ := h.ex
  refine ⟨⟨A, c, h1.far (fun e => hp (e ▸ h.own)) u, ?_, h3⟩, h.own, h.uniq, h.len, h.size⟩
  exact model.RowsAt.of_same h2 (fun g e => Below.heap_setCell W p u g (fun e2 => hp (e2 ▸ h3 g (by rw [rowOf_eq] at e; exact e))))
theorem Pl.far (h : Pl w S T r q N nx st R M W) {p : Addr} (hf : Free S T p.block) (hw : w.heap.size ≤ p.block) (u : Value) : Pl w S T r q N nx st R M (W.setCell p u) :=
  ⟨rk_far h.rk hf.s u, mrk_far h.mod hf.t u, fun g e => by have := h.hS g e; simpa [World.setCell] using this, fun g e => by have := h.hT g e; simpa [World.setCell] using this, h.dis, h.below.setCell hw u, h.perm, h.pos⟩

theorem own_lies {B : Nat} {A : Option Addr} {n c : Nat} {xs : List Int} (h : W.ownsRow B 3 1 (.slice A n c) n (I8 xs)) (hp : 0 < xs.length) : ∃ (D : Nat) (cs : Array Value), A = some ⟨D, 0, none⟩ ∧ Lies W D 3 cs ∧ B ≤ D ∧ ∀ (i : Nat) (z : Int), xs[i]? = some z → cs[i]? = some (.int .i64 z) := by
  obtain ⟨g, hA, hl, hc⟩ := ints_cell h hp
  have hB := ints_ge h (g := g) (by rw [hA]; rfl)
  rcases h.2 with ⟨he, h0⟩ | ⟨g', cap, cur, he, hb, hg, _⟩
  · simp only [Value.slice.injEq] at he
    rw [hA] at he
    cases he.1
  · simp only [Value.slice.injEq] at he
    have e1 := he.1
    rw [hA] at e1
    cases e1
    refine ⟨g, cur, hA, hg, hB, fun i z hz => ?_⟩
    have hl : Lies W g 3 cur := hg
    rw [← hl.cell i]
    exact hc i z hz

/-- one of the read ids is asked for on both sides -/
theorem in_round {A : Option Addr} {n j : Nat} (h : InI w r q N first st k A n j W) (hj : j < n) : ∃ (D : Nat) (z v : Int), A = some ⟨D, 0, none⟩ ∧ W.cell? ⟨D, j, none⟩ = some (.int .i64 z) ∧
    Calls Try.prog 17 #[.pointer (some ⟨r, 0, none⟩), .int .i64 z] W fun e W' => e = .returned (.tuple #[.int .i64 v, .int .i64 0]) ∧ W'.cell? ⟨D, j, none⟩ = some (.int .i64 z) ∧ W'.frozen? ⟨D, j, none⟩ = false ∧
      Calls Try.prog 18 #[.pointer (some ⟨q, 0, none⟩), .int .i64 z] W' (fun e' w' => e' = .returned (.tuple #[.int .i64 v, .int .i64 0]) ∧ W' = w') ∧ InI w r q N first st k A n (j + 1) (W'.setCell ⟨D, j, none⟩ (.int .i64 (-5))) := by
  obtain ⟨S, T, R, M, m, hpl, hc, hn, hd⟩ := h.ex
  obtain ⟨D, cs, hA, hl, hwD, hf, hcs⟩ := hd (by omega)
  obtain ⟨⟨z, u⟩, hx⟩ : ∃ x, R[j]? = some x := ⟨_, List.getElem?_eq_getElem (by omega)⟩
  obtain ⟨p, hp⟩ := hpl.getM hx
  refine ⟨D, z, u, hA, (hl.cell j).trans (hcs j _ (Nat.le_refl _) hx), (get_in hpl.rk hx).mono ?_⟩
  rintro e W' ⟨rfl, hb⟩
  have hl' := hl.below hb hl.lt
  refine ⟨rfl, (hl'.cell j).trans (hcs j _ (Nat.le_refl _) hx), hl'.frozen j, mget_in (hpl.mod.below hb) hp, S, T, R, M, m, (hpl.later hb).far (p := ⟨D, j, none⟩) hf hwD _, hc, hn, fun _ => ⟨D, _, hA, hl'.set j _, hwD, hf, fun i x hi hx => ?_⟩⟩
  rw [Array.getElem?_setIfInBounds_ne (by omega)]
  exact hcs i x (by omega) hx
theorem InI.done {A : Option Addr} {n j : Nat} (h : InI w r q N first st k A n j W) : PlI w r q N first st k W := by
  obtain ⟨S, T, R, M, m, hpl, hc, _⟩ := h.ex
  exact ⟨S, T, R, M, m, hpl, hc⟩

/-- the read ids, and what is asked of both about them -/
structure Asks (w : World) (r q N : Nat) (first st : Int) (k : Nat) (A : Option Addr) (n c : Nat) (W : World) : Prop where
  ex : ∃ (A5 : Option Addr) (c5 : Nat), W.cell? ⟨q, 3, none⟩ = some (.slice A5 n c5) ∧ n ≤ 64 ∧
    Calls Try.prog 20 #[.pointer (some ⟨r, 0, none⟩)] W.drew (fun e w' => e = .returned (.int .i64 (n : Int)) ∧ W.drew = w') ∧
    Calls Try.prog 22 #[.pointer (some ⟨q, 0, none⟩)] W.drew fun e W4 => ∃ (A4 : Option Addr) (c4 : Nat), e = .returned (.slice A4 n c4) ∧ W4.cell? ⟨q, 3, none⟩ = some (.slice A5 n c5) ∧
      Calls Try.prog 21 #[.slice A n c, .slice A4 n c4] W4 fun e W5 => e = .returned (.bool true) ∧ W5.cell? ⟨q, 3, none⟩ = some (.slice A5 n c5) ∧ InI w r q N first st k A n 0 W5

theorem rest_ids (h : PlX w r q N first st k X kd id v W) : Calls Try.prog 19 #[.pointer (some ⟨r, 0, none⟩)] W fun e W3 => ∃ (A : Option Addr) (n c : Nat), e = .returned (.slice A n c) ∧ Asks w r q N first st k A n c W3 := by
  obtain ⟨S, T, R, M, m, hpl, hc, hx, hf⟩ := h.ex
  refine (ids_of hpl.rk).mono ?_
  rintro e W3 ⟨A, c, rfl, ho, hb⟩
  have hkl : (R.map (·.1)).length = R.length := List.length_map ..
  have hlen := hpl.perm.length_eq
  rw [hkl] at ho ⊢
  have h3 := hpl.later hb
  have h64 : R.length ≤ 64 := Nat.le_trans h3.rk.len h3.rk.size
  have hD : 0 < R.length → ∃ (D : Nat) (cs : Array Value), A = some ⟨D, 0, none⟩ ∧ Lies W3 D 3 cs ∧ w.heap.size ≤ D ∧ Free S T D ∧ ∀ (i : Nat) (x : Int × Int), 0 ≤ i → R[i]? = some x → cs[i]? = some (.int .i64 x.1) := fun hp => by
    obtain ⟨D, cs, hA, hl, hB, hcs⟩ := own_lies ho (by rw [hkl]; exact hp)
    have hz := hpl.below.size
    exact ⟨D, cs, hA, hl, by omega, ⟨fun e => by have := (hpl.hS D e).2; omega, fun e => by have := (hpl.hT D e).2; omega⟩, fun i x _ hx => hcs i _ (by rw [List.getElem?_map, hx]; rfl)⟩
  obtain ⟨A5, c5, hl5, _⟩ := h3.mod.ex
  have c3 := hl5.cell 3
  rw [hlen] at hl5
  have hb3 : Below W3.heap.size W3 W3.drew := (Below.refl _ W3).drew
  have h3d := h3.later hb3
  refine ⟨A, R.length, c, rfl, A5, c5, hl5.cell 3, h64, len_any h3d.rk, (mids_any h3d.mod h3d.perm h3d.rk.sorted h3d.pos).mono ?_⟩
  rintro e W4 ⟨A4, c4, rfl, ho4, hb4⟩
  rw [hkl] at ho4 ⊢
  have hb34 := hb3.trans hb4
  have hl54 := hl5.below hb34 hl5.lt
  refine ⟨A4, c4, rfl, hl54.cell 3, (ints_same (own_below4 ho hb34) ho4 (by omega)).mono ?_⟩
  rintro e W5 ⟨rfl, hst⟩
  have hb5 : Below W3.heap.size W3 W5 := hb34.trans (hst.below _)
  refine ⟨rfl, (hl5.below hb5 hl5.lt).cell 3, S, T, R, M, m, h3.later hb5, hc, rfl, fun hp => ?_⟩
  obtain ⟨D, cs, hA, hl, hwD, hf, hcs⟩ := hD hp
  exact ⟨D, cs, hA, hl.below hb5 hl.lt, hwD, hf, hcs⟩
end

end Go.Proofs.Ytcecdcdnjbndiaa.plays
