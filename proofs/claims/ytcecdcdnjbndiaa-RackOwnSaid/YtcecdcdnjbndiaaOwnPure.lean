/-
  Given for 'Rows.RackOwnSaid': the two arrays in which the law keeps what it has put. No condition but those of the theorems.
-/
import Derived.Test.YtcecdcdnjbndiaaTwice
namespace Go.Proofs.Ytcecdcdnjbndiaa.rack
open Go.RowKit mem find
set_option linter.unusedVariables false

def hasB (R : List (Int × Int)) (id : Int) : Bool := R.any fun x => decide (x.1 = id)
theorem hasB_iff {R : List (Int × Int)} {id : Int} : hasB R id = true ↔ Has R id := by
  unfold hasB Has
  simp only [List.any_eq_true, decide_eq_true_eq]
  constructor
  · rintro ⟨x, hx, rfl⟩; exact ⟨x.2, hx⟩
  · rintro ⟨v, hv⟩; exact ⟨_, hv, rfl⟩
theorem hasB_true {R : List (Int × Int)} {id : Int} (h : Has R id) : hasB R id = true := hasB_iff.2 h
theorem hasB_false {R : List (Int × Int)} {id : Int} (h : ¬ Has R id) : hasB R id = false := by
  rcases hb : hasB R id with _ | _
  · rfl
  · exact absurd (hasB_iff.1 hb) h
theorem hasB_congr {R R' : List (Int × Int)} {id : Int} (h : Has R id ↔ Has R' id) : hasB R id = hasB R' id := by rw [Bool.eq_iff_iff, hasB_iff, hasB_iff]; exact h

/-- the arrays hold the rows -/
structure TV (R : List (Int × Int)) (tcs vcs : Array Value) : Prop where
  ts : tcs.size = 1000
  vs : vcs.size = 1000
  t : ∀ i : Nat, i < 1000 → tcs[i]? = some (.bool (hasB R i))
  v : ∀ i : Nat, i < 1000 → ∃ x : Int, vcs[i]? = some (.int .i64 x) ∧ ∀ u, ((i : Int), u) ∈ R → u = x

theorem set_get {a : Array Value} {i j : Nat} {u : Value} (hi : i < a.size) : (a.setIfInBounds i u)[j]? = if i = j then some u else a[j]? := by
  rw [Array.getElem?_setIfInBounds]
  split
  · rename_i e; subst e; simp
  · rfl

theorem TV.ins {R : List (Int × Int)} {tcs vcs : Array Value} (h : TV R tcs vcs) (y : Nat) (v : Int) (hy : y < 1000) (hn : ¬ Has R y) : TV (insR ((y : Int), v) R) (tcs.setIfInBounds y (.bool true)) (vcs.setIfInBounds y (.int .i64 v)) := by
  refine ⟨by simp [h.ts], by simp [h.vs], fun i hi => ?_, fun i hi => ?_⟩
  · rw [set_get (by rw [h.ts]; exact hy)]
    split
    · rename_i e; subst e
      rw [hasB_true (has_insR.2 (.inl rfl))]
    · rename_i e
      rw [h.t i hi]
      congr 2
      refine hasB_congr ?_
      rw [has_insR]
      constructor
      · exact .inr
      · rintro (e' | h')
        · dsimp only at e'; omega
        · exact h'
  · rw [set_get (by rw [h.vs]; exact hy)]
    split
    · rename_i e; subst e
      refine ⟨v, rfl, fun u hu => ?_⟩
      rcases mem_insR.1 hu with e | hu
      · cases e; rfl
      · exact absurd ⟨u, hu⟩ hn
    · rename_i e
      obtain ⟨x, hx, hxu⟩ := h.v i hi
      refine ⟨x, hx, fun u hu => ?_⟩
      rcases mem_insR.1 hu with e' | hu
      · cases e'; omega
      · exact hxu u hu
theorem TV.set {R : List (Int × Int)} {tcs vcs : Array Value} (h : TV R tcs vcs) (y : Nat) (v : Int) (hy : y < 1000) : TV (setR (y : Int) v R) tcs (vcs.setIfInBounds y (.int .i64 v)) := by
  refine ⟨h.ts, by simp [h.vs], fun i hi => ?_, fun i hi => ?_⟩
  · rw [h.t i hi]
    congr 2
    exact hasB_congr has_setR.symm
  · rw [set_get (by rw [h.vs]; exact hy)]
    split
    · rename_i e; subst e
      refine ⟨v, rfl, fun u hu => ?_⟩
      rcases mem_setR.1 hu with ⟨e, _⟩ | ⟨e, _⟩
      · exact absurd rfl e
      · cases e; rfl
    · rename_i e
      obtain ⟨x, hx, hxu⟩ := h.v i hi
      refine ⟨x, hx, fun u hu => ?_⟩
      rcases mem_setR.1 hu with ⟨_, hu⟩ | ⟨e', _⟩
      · exact hxu u hu
      · cases e'; omega
theorem TV.del {R : List (Int × Int)} {tcs vcs : Array Value} (h : TV R tcs vcs) (y : Nat) (hy : y < 1000) : TV (delR (y : Int) R) (tcs.setIfInBounds y (.bool false)) vcs := by
  refine ⟨by simp [h.ts], h.vs, fun i hi => ?_, fun i hi => ?_⟩
  · rw [set_get (by rw [h.ts]; exact hy)]
    split
    · rename_i e; subst e
      rw [hasB_false (fun hh => (has_delR.1 hh).2 rfl)]
    · rename_i e
      rw [h.t i hi]
      congr 2
      refine hasB_congr ?_
      rw [has_delR]
      exact ⟨fun hh => ⟨hh, by omega⟩, fun hh => hh.1⟩
  · obtain ⟨x, hx, hxu⟩ := h.v i hi
    exact ⟨x, hx, fun u hu => hxu u (mem_delR.1 hu).1⟩

theorem infoBools : (Try.prog.info? 58).map (fun i => (i.zero, i.size)) = some (some (.agg (Array.replicate 1000 (.bool false))), 1000) := by kernel_rfl
theorem infoIntArr : (Try.prog.info? 59).map (fun i => (i.zero, i.size)) = some (some (.agg (Array.replicate 1000 (.int .i64 0))), 1000) := by kernel_rfl
theorem zeros (t : TypeId) (v : Value) (h : (Try.prog.info? t).map (fun i => (i.zero, i.size)) = some (some (.agg (Array.replicate 1000 v)), 1000)) :
    ∃ Z : Array Value, (∀ w, (zeroValue t).run Try.prog w = .ok (.agg Z) w) ∧ Z.size = 1000 ∧ ∀ i, i < 1000 → Z[i]? = some v := by
  obtain ⟨i, hi, he⟩ := Option.map_eq_some_iff.1 h
  simp only [Prod.mk.injEq] at he
  refine ⟨Array.replicate 1000 v, fun w => ?_, by simp, fun j hj => by simp [hj]⟩
  simp [zeroValue, typeInfo, hi, he.1]
theorem TV.start {tcs vcs : Array Value} (h1 : tcs.size = 1000) (h2 : ∀ i, i < 1000 → tcs[i]? = some (.bool false)) (h3 : vcs.size = 1000) (h4 : ∀ i, i < 1000 → vcs[i]? = some (.int .i64 0)) : TV [] tcs vcs :=
  ⟨h1, h3, fun i hi => h2 i hi, fun i hi => ⟨0, h4 i hi, fun u hu => by simp at hu⟩⟩

/-! ### the rack, the two arrays, and the act's box, side by side -/
structure OwB (w : World) (S : Nat → Prop) (r N : Nat) (nx st : Int) (R : List (Int × Int)) (bT bV : Nat) (tcs vcs : Array Value) (W : World) : Prop where
  st : St w S r N nx st R W
  t : Lies W bT 58 tcs
  v : Lies W bV 59 vcs
  nt : ¬ S bT
  nv : ¬ S bV
  gt : w.heap.size ≤ bT
  gv : w.heap.size ≤ bV
structure OwX (w : World) (S : Nat → Prop) (r N : Nat) (nx st : Int) (R : List (Int × Int)) (bT bV : Nat) (tcs vcs : Array Value) (X : Nat) (xcs : Array Value) (W : World) : Prop where
  b : OwB w S r N nx st R bT bV tcs vcs W
  x : Lies W X 31 xcs
  nx : ¬ S X
section
variable {w W W' : World} {S : Nat → Prop} {r N bT bV X : Nat} {nx nx' st : Int} {R R' : List (Int × Int)} {tcs vcs xcs : Array Value}
theorem OwB.later (h : OwB w S r N nx st R bT bV tcs vcs W) (hb : Below W.heap.size W W') : OwB w S r N nx st R bT bV tcs vcs W' :=
  ⟨h.st.later hb, h.t.below hb h.t.lt, h.v.below hb h.v.lt, h.nt, h.nv, h.gt, h.gv⟩
theorem OwX.later (h : OwX w S r N nx st R bT bV tcs vcs X xcs W) (hb : Below W.heap.size W W') : OwX w S r N nx st R bT bV tcs vcs X xcs W' := ⟨h.b.later hb, h.x.below hb h.x.lt, h.nx⟩
theorem OwX.did (h : OwX w S r N nx st R bT bV tcs vcs X xcs W) (hd : Did S r N nx' st R' W W') : ∃ S', OwX w S' r N nx' st R' bT bV tcs vcs X xcs W' := by
  refine ⟨_, ⟨h.b.st.did hd, h.b.t.keep hd.keep h.b.t.lt h.b.nt, h.b.v.keep hd.keep h.b.v.lt h.b.nv, ?_, ?_, h.b.gt, h.b.gv⟩, h.x.keep hd.keep h.x.lt h.nx, ?_⟩
  · rintro ⟨e | e, _⟩
    · exact h.b.nt e
    · have := h.b.t.lt; omega
  · rintro ⟨e | e, _⟩
    · exact h.b.nv e
    · have := h.b.v.lt; omega
  · rintro ⟨e | e, _⟩
    · exact h.nx e
    · have := h.x.lt; omega
theorem St.far (h : St w S r N nx st R W) {p : Addr} (hp : ¬ S p.block) (hw : w.heap.size ≤ p.block) (u : Value) : St w S r N nx st R (W.setCell p u) :=
  ⟨rk_far h.rk hp u, fun g e => by have := h.lt g e; simpa [World.setCell] using this, h.below.setCell hw u⟩
theorem OwX.setT (h : OwX w S r N nx st R bT bV tcs vcs X xcs W) (i : Nat) (u : Value) : OwX w S r N nx st R bT bV (tcs.setIfInBounds i u) vcs X xcs (W.setCell ⟨bT, i, none⟩ u) :=
  ⟨⟨h.b.st.far (p := ⟨bT, i, none⟩) h.b.nt h.b.gt u, h.b.t.set i u, h.b.v.far (p := ⟨bT, i, none⟩) (h.b.v.apart h.b.t (by decide)) u, h.b.nt, h.b.nv, h.b.gt, h.b.gv⟩, h.x.far (p := ⟨bT, i, none⟩) (h.x.apart h.b.t (by decide)) u, h.nx⟩
theorem OwX.setV (h : OwX w S r N nx st R bT bV tcs vcs X xcs W) (i : Nat) (u : Value) : OwX w S r N nx st R bT bV tcs (vcs.setIfInBounds i u) X xcs (W.setCell ⟨bV, i, none⟩ u) :=
  ⟨⟨h.b.st.far (p := ⟨bV, i, none⟩) h.b.nv h.b.gv u, h.b.t.far (p := ⟨bV, i, none⟩) (h.b.t.apart h.b.v (by decide)) u, h.b.v.set i u, h.b.nt, h.b.nv, h.b.gt, h.b.gv⟩, h.x.far (p := ⟨bV, i, none⟩) (h.x.apart h.b.v (by decide)) u, h.nx⟩
end

/-- what holds between two acts -/
structure OwInv (w : World) (r N : Nat) (st : Int) (bT bV : Nat) (k many : Nat) (W : World) : Prop where
  ex : ∃ (S : Nat → Prop) (R : List (Int × Int)) (m : Nat) (tcs vcs : Array Value), OwB w S r N (1 + (m : Int) * st) st R bT bV tcs vcs W ∧ TV R tcs vcs ∧ m + cnt R (1 + (m : Int) * st) ≤ k ∧ R.length = many

end Go.Proofs.Ytcecdcdnjbndiaa.rack
