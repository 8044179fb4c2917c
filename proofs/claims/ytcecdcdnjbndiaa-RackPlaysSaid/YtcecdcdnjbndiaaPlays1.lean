/-
  Given for 'Rows.RackPlaysSaid': the rack and the document's rack side by side, and each act done to both. No condition but those of the theorems.
-/
import Derived.Test.YtcecdcdnjbndiaaModel6
import Derived.Test.YtcecdcdnjbndiaaActs3
namespace Go.Proofs.Ytcecdcdnjbndiaa.plays
open Go.RowKit mem find rack model
set_option linter.unusedVariables false

/-- both, side by side -/
structure Pl (w : World) (S T : Nat → Prop) (r q N : Nat) (nx st : Int) (R M : List (Int × Int)) (W : World) : Prop where
  rk : Rk W S r N nx st R
  mod : MRk W T q N nx st M
  hS : ∀ g, S g → w.heap.size ≤ g ∧ g < W.heap.size
  hT : ∀ g, T g → w.heap.size ≤ g ∧ g < W.heap.size
  dis : ∀ g, S g → T g → False
  below : Below w.heap.size w W
  perm : M.Perm R
  pos : ∀ x ∈ R, 1 ≤ x.1
/-- a block that is neither's -/
structure Free (S T : Nat → Prop) (g : Nat) : Prop where
  s : ¬ S g
  t : ¬ T g

section
variable {w W W' W'' : World} {S T : Nat → Prop} {r q N : Nat} {nx nx' st : Int} {R R' M M' : List (Int × Int)}
theorem did_same (h : Rk W S r N nx st R) (hb : Below W.heap.size W W') : Did S r N nx st R W W' := ⟨(h.below hb).mono (fun g e => .inl e), Keep.of_below hb S⟩
theorem mdid_same (h : MRk W T q N nx st M) (hb : Below W.heap.size W W') : MDid T q N nx st M W W' := ⟨(h.below hb).mono (fun g e => .inl e), Keep.of_below hb T⟩
theorem Pl.mid (h : Pl w S T r q N nx st R M W) (hk : Keep W.heap.size S W W') : MRk W' T q N nx st M := h.mod.keep hk (fun g _ ht hs => h.dis g hs ht)
theorem pl_step (h : Pl w S T r q N nx st R M W) (hd : Did S r N nx' st R' W W') (hm : MDid T q N nx' st M' W' W'') (hp : M'.Perm R') (hpos : ∀ x ∈ R', 1 ≤ x.1) :
    ∃ S' T', Pl w S' T' r q N nx' st R' M' W'' ∧ ∀ g, g < W.heap.size → Free S T g → Free S' T' g ∧ W''.heap[g]? = W.heap[g]? := by
  have hz1 := hd.keep.size
  have hz2 := hm.keep.size
  refine ⟨fun g => (S g ∨ W.heap.size ≤ g) ∧ g < W'.heap.size, fun g => (T g ∨ W'.heap.size ≤ g) ∧ g < W''.heap.size,
    ⟨hd.rk.bounded.keep hm.keep (fun g hg e ht => ?_), hm.rk.bounded, fun g e => ?_, fun g e => ?_, fun g e1 e2 => ?_, ?_, hp, hpos⟩, fun g hg hf => ⟨⟨fun e => ?_, fun e => ?_⟩, ?_⟩⟩
  · rcases e.1 with e1 | e1
    · exact h.dis g e1 ht
    · have := (h.hT g ht).2; omega
  · refine ⟨?_, by have := e.2; omega⟩
    rcases e.1 with e1 | e1
    · exact (h.hS g e1).1
    · exact Nat.le_trans h.below.size e1
  · refine ⟨?_, e.2⟩
    rcases e.1 with e1 | e1
    · exact (h.hT g e1).1
    · exact Nat.le_trans h.below.size (by omega)
  · rcases e2.1 with t | t
    · rcases e1.1 with s | s
      · exact h.dis g s t
      · have := (h.hT g t).2; omega
    · have := e1.2; omega
  · have b1 := h.below.trans (hd.keep.below h.below.size (fun k hk e => by have := (h.hS k e).1; omega))
    exact b1.trans (hm.keep.below b1.size (fun k hk e => by have := (h.hT k e).1; omega))
  · rcases e.1 with e1 | e1
    · exact hf.s e1
    · omega
  · rcases e.1 with e1 | e1
    · exact hf.t e1
    · omega
  · exact (hm.keep.block g (by omega) hf.t).trans (hd.keep.block g hg hf.s)
theorem Pl.later (h : Pl w S T r q N nx st R M W) (hb : Below W.heap.size W W') : Pl w S T r q N nx st R M W' :=
  ⟨h.rk.below hb, h.mod.below hb, fun g e => ⟨(h.hS g e).1, Nat.lt_of_lt_of_le (h.hS g e).2 hb.size⟩, fun g e => ⟨(h.hT g e).1, Nat.lt_of_lt_of_le (h.hT g e).2 hb.size⟩, h.dis, h.below.trans (hb.mono h.below.size), h.perm, h.pos⟩
theorem Pl.hasM (h : Pl w S T r q N nx st R M W) {id : Int} : Has M id ↔ Has R id := by
  unfold Has
  simp only [h.perm.mem_iff]
theorem Pl.getM (h : Pl w S T r q N nx st R M W) {id v : Int} {k : Nat} (hk : R[k]? = some (id, v)) : ∃ p : Nat, M[p]? = some (id, v) := List.getElem?_of_mem (h.perm.mem_iff.2 (List.mem_of_getElem? hk))
end

/-- both, and the act's box -/
structure PlX (w : World) (r q N : Nat) (first st : Int) (k X : Nat) (kd id v : Int) (W : World) : Prop where
  ex : ∃ (S T : Nat → Prop) (R M : List (Int × Int)) (m : Nat), Pl w S T r q N (first + (m : Int) * st) st R M W ∧ m + cnt R (first + (m : Int) * st) ≤ k ∧ Lies W X 31 #[.int .u8 kd, .int .i64 id, .int .i64 v] ∧ Free S T X
/-- the loads beside the calls -/
abbrev Ld (X : Nat) (id v : Int) (W : World) : Prop := W.cell? ⟨X, 1, none⟩ = some (.int .i64 id) ∧ W.cell? ⟨X, 2, none⟩ = some (.int .i64 v)

section
variable {w W W' W'' : World} {S T : Nat → Prop} {r q N k m X : Nat} {first st kd id v nx' : Int} {R R' M M' : List (Int × Int)}
theorem PlX.ld (h : PlX w r q N first st k X kd id v W) : Ld X id v W := by
  obtain ⟨S, T, R, M, m, _, _, hx, _⟩ := h.ex
  exact ⟨hx.cell 1, hx.cell 2⟩
theorem PlX.later (h : PlX w r q N first st k X kd id v W) (hb : Below W.heap.size W W') : PlX w r q N first st k X kd id v W' := by
  obtain ⟨S, T, R, M, m, h1, h2, hx, hf⟩ := h.ex
  exact ⟨S, T, R, M, m, h1.later hb, h2, hx.below hb hx.lt, hf⟩
theorem ld_did (hx : Lies W X 31 #[.int .u8 kd, .int .i64 id, .int .i64 v]) (hf : Free S T X) (hk : Keep W.heap.size S W W') : Ld X id v W' := by
  have := hx.keep hk hx.lt hf.s
  exact ⟨this.cell 1, this.cell 2⟩
/-- the step, put together -/
theorem plx_step (h : Pl w S T r q N (first + (m : Int) * st) st R M W) (hx : Lies W X 31 #[.int .u8 kd, .int .i64 id, .int .i64 v]) (hf : Free S T X) (m' : Nat) (hd : Did S r N (first + (m' : Int) * st) st R' W W') (hm : MDid T q N (first + (m' : Int) * st) st M' W' W'') (hp : M'.Perm R')
    (hpos : ∀ x ∈ R', 1 ≤ x.1) {k' : Nat} (hc : m' + cnt R' (first + (m' : Int) * st) ≤ k') : PlX w r q N first st k' X kd id v W'' := by
  obtain ⟨S', T', hpl, hfree⟩ := pl_step h hd hm hp hpos
  obtain ⟨hf', he⟩ := hfree X hx.lt hf
  exact ⟨S', T', R', M', m', hpl, hc, hx.of_same he, hf'⟩

/-- what one call, and then the document's, leave: the same answer -/
structure Both1 (w : World) (r q N : Nat) (first st : Int) (k X : Nat) (kd id v : Int) (f2 : Nat) (args2 : Array Value) (e : Ending) (W' : World) : Prop where
  ex : ∃ g : Int, e = .returned (.int .i64 g) ∧ Ld X id v W' ∧ Calls Try.prog f2 args2 W' fun e' W'' => e' = .returned (.int .i64 g) ∧ PlX w r q N first st k X kd id v W''

theorem perm_ins {x : Int × Int} (hp : M.Perm R) : (M ++ [x]).Perm (insR x R) := (List.perm_append_comm.trans (hp.cons x)).trans (insR_perm x R).symm
theorem pos_ins {x : Int × Int} (h : ∀ y ∈ R, 1 ≤ y.1) (hx : 1 ≤ x.1) : ∀ y ∈ insR x R, 1 ≤ y.1 := fun y hy => by
  rcases mem_insR.1 hy with rfl | hy
  · exact hx
  · exact h y hy
theorem pos_del {i : Int} (h : ∀ y ∈ R, 1 ≤ y.1) : ∀ y ∈ delR i R, 1 ≤ y.1 := fun y hy => h y (mem_delR.1 hy).1
theorem pos_set {i u : Int} (h : ∀ y ∈ R, 1 ≤ y.1) : ∀ y ∈ setR i u R, 1 ≤ y.1 := fun y hy => by
  rcases mem_setR.1 hy with ⟨_, hy⟩ | ⟨rfl, u', hu⟩
  · exact h y hy
  · exact h (i, u') hu

theorem hold_both (h : PlX w r q N first st k X kd id v W) : Calls Try.prog 11 #[.pointer (some ⟨r, 0, none⟩), .int .i64 id, .int .i64 v] W (Both1 w r q N first st (k + 1) X kd id v 12 #[.pointer (some ⟨q, 0, none⟩), .int .i64 id, .int .i64 v]) := by
  obtain ⟨S, T, R, M, m, hpl, hc, hx, hf⟩ := h.ex
  have hlen := hpl.perm.length_eq
  by_cases hid : id < 1 ∨ 1099511627775 < id
  · have hno : ¬ Has R id ∨ Has R id := (Classical.em _).symm
    have hh : Calls Try.prog 11 #[.pointer (some ⟨r, 0, none⟩), .int .i64 id, .int .i64 v] W fun e w' => e = .returned (.int .i64 2) ∧ Below W.heap.size W w' := by
      rcases hno with hno | hin
      · exact hold_wrong hpl.rk hno hid v
      · exact hold_used hpl.rk hin v
    refine hh.mono ?_
    rintro e W' ⟨rfl, hb⟩
    have hd := did_same hpl.rk hb
    refine ⟨2, rfl, ld_did hx hf hd.keep, (mhold_wrong (hpl.mid hd.keep) hid v).mono ?_⟩
    rintro e W'' ⟨rfl, rfl⟩
    exact ⟨rfl, plx_step hpl hx hf m hd (mdid_same (hpl.mid hd.keep) (Below.refl _ _)) hpl.perm hpl.pos (by omega)⟩
  · by_cases hin : Has R id
    · refine (hold_used hpl.rk hin v).mono ?_
      rintro e W' ⟨rfl, hb⟩
      have hd := did_same hpl.rk hb
      refine ⟨2, rfl, ld_did hx hf hd.keep, (mhold_used (hpl.mid hd.keep) (hpl.hasM.2 hin) (by omega) (by omega) v).mono ?_⟩
      rintro e W'' ⟨rfl, rfl⟩
      exact ⟨rfl, plx_step hpl hx hf m hd (mdid_same (hpl.mid hd.keep) (Below.refl _ _)) hpl.perm hpl.pos (by omega)⟩
    · by_cases hfull : R.length = N
      · refine (hold_full hpl.rk hin (by omega) (by omega) hfull v).mono ?_
        rintro e W' ⟨rfl, hb⟩
        have hd := did_same hpl.rk hb
        refine ⟨4, rfl, ld_did hx hf hd.keep, (mhold_full (hpl.mid hd.keep) (fun hh => hin (hpl.hasM.1 hh)) (by omega) (by omega) (by omega) v).mono ?_⟩
        rintro e W'' ⟨rfl, hst⟩
        exact ⟨rfl, plx_step hpl hx hf m hd (mdid_same (hpl.mid hd.keep) (hst.below _)) hpl.perm hpl.pos (by omega)⟩
      · have hlt : R.length < N := by have := hpl.rk.len; omega
        refine (hold_ok hpl.rk hin (by omega) (by omega) hlt v).mono ?_
        rintro e W' ⟨rfl, hd⟩
        refine ⟨0, rfl, ld_did hx hf hd.keep, (mhold_ok (hpl.mid hd.keep) (fun hh => hin (hpl.hasM.1 hh)) (by omega) (by omega) (by omega) v).mono ?_⟩
        rintro e W'' ⟨rfl, hm⟩
        exact ⟨rfl, plx_step hpl hx hf m hd hm (perm_ins hpl.perm) (pos_ins hpl.pos (by show 1 ≤ id; omega)) (by rw [cnt_insR]; split <;> omega)⟩

theorem set_perm {j i : Nat} {u0 : Int} (hp : M.Perm R) (hs : Sorted R) (hu : Uniq M) (hM : M[j]? = some (id, u0)) (u : Int) : (M.set j (id, u)).Perm (setR id u R) := by
  have e : M.set j (id, u) = M.map fun y => if y.1 = id then (id, u) else y := by
    apply List.ext_getElem?
    intro i
    rw [List.getElem?_map, List.getElem?_set]
    by_cases hij : j = i
    · subst hij
      have hl := (List.getElem?_eq_some_iff.1 hM).1
      rw [if_pos rfl, if_pos hl, hM]
      simp
    · rw [if_neg hij]
      rcases hx : M[i]? with _ | x
      · rfl
      · have : x.1 ≠ id := fun e => hij (uniq_at hu hM hx e.symm)
        simp [this]
  rw [e]
  exact hp.map _
theorem del_perm {j : Nat} {u0 : Int} (hp : M.Perm R) (hu : Uniq M) (hM : M[j]? = some (id, u0)) : (del M j).Perm (delR id R) := by
  have e : del M j = M.filter fun y => decide (y.1 ≠ id) := by
    obtain ⟨hl, he⟩ := List.getElem?_eq_some_iff.1 hM
    have e1 : M = M.take j ++ (id, u0) :: M.drop (j + 1) := by rw [← he, ← List.drop_eq_getElem_cons hl, List.take_append_drop]
    have h1 : ∀ y ∈ M.take j, y.1 ≠ id := fun y hy e => by
      obtain ⟨i, hi⟩ := List.getElem?_of_mem hy
      rw [List.getElem?_take] at hi
      split at hi
      · have := uniq_at hu hi hM e; omega
      · cases hi
    have h2 : ∀ y ∈ M.drop (j + 1), y.1 ≠ id := fun y hy e => by
      obtain ⟨i, hi⟩ := List.getElem?_of_mem hy
      rw [List.getElem?_drop] at hi
      have := uniq_at hu hi hM e; omega
    conv => rhs; rw [e1]
    rw [List.filter_append, List.filter_eq_self.2 (fun y hy => by simpa using h1 y hy), List.filter_cons_of_neg (by simp), List.filter_eq_self.2 (fun y hy => by simpa using h2 y hy)]
    rfl
  rw [e]
  exact hp.filter _

theorem set_both (h : PlX w r q N first st k X kd id v W) : Calls Try.prog 13 #[.pointer (some ⟨r, 0, none⟩), .int .i64 id, .int .i64 v] W (Both1 w r q N first st (k + 1) X kd id v 14 #[.pointer (some ⟨q, 0, none⟩), .int .i64 id, .int .i64 v]) := by
  obtain ⟨S, T, R, M, m, hpl, hc, hx, hf⟩ := h.ex
  by_cases hin : Has R id
  · obtain ⟨i, u, hi⟩ := has_get hin
    obtain ⟨j, hj⟩ := hpl.getM hi
    refine (set_in hpl.rk hi v).mono ?_
    rintro e W' ⟨rfl, hd⟩
    refine ⟨0, rfl, ld_did hx hf hd.keep, (mset_in (hpl.mid hd.keep) hj v).mono ?_⟩
    rintro e W'' ⟨rfl, hm⟩
    exact ⟨rfl, plx_step hpl hx hf m hd hm (set_perm (i := 0) hpl.perm hpl.rk.sorted hpl.mod.uniq hj v) (pos_set hpl.pos) (by rw [cnt_setR]; omega)⟩
  · refine (set_out hpl.rk hin v).mono ?_
    rintro e W' ⟨rfl, hb⟩
    have hd := did_same hpl.rk hb
    refine ⟨30, rfl, ld_did hx hf hd.keep, (mset_out (hpl.mid hd.keep) (fun hh => hin (hpl.hasM.1 hh)) v).mono ?_⟩
    rintro e W'' ⟨rfl, rfl⟩
    exact ⟨rfl, plx_step hpl hx hf m hd (mdid_same (hpl.mid hd.keep) (Below.refl _ _)) hpl.perm hpl.pos (by omega)⟩

theorem drop_both (h : PlX w r q N first st k X kd id v W) : Calls Try.prog 15 #[.pointer (some ⟨r, 0, none⟩), .int .i64 id] W (Both1 w r q N first st (k + 1) X kd id v 16 #[.pointer (some ⟨q, 0, none⟩), .int .i64 id]) := by
  obtain ⟨S, T, R, M, m, hpl, hc, hx, hf⟩ := h.ex
  by_cases hin : Has R id
  · obtain ⟨i, u, hi⟩ := has_get hin
    obtain ⟨j, hj⟩ := hpl.getM hi
    refine (drop_in hpl.rk hi).mono ?_
    rintro e W' ⟨rfl, hd⟩
    refine ⟨0, rfl, ld_did hx hf hd.keep, (mdrop_in (hpl.mid hd.keep) hj).mono ?_⟩
    rintro e W'' ⟨rfl, hm⟩
    exact ⟨rfl, plx_step hpl hx hf m hd hm (del_perm hpl.perm hpl.mod.uniq hj) (pos_del hpl.pos) (by have := cnt_delR id R (first + (m : Int) * st); omega)⟩
  · refine (drop_out hpl.rk hin).mono ?_
    rintro e W' ⟨rfl, hb⟩
    have hd := did_same hpl.rk hb
    refine ⟨30, rfl, ld_did hx hf hd.keep, (mdrop_out (hpl.mid hd.keep) (fun hh => hin (hpl.hasM.1 hh))).mono ?_⟩
    rintro e W'' ⟨rfl, rfl⟩
    exact ⟨rfl, plx_step hpl hx hf m hd (mdid_same (hpl.mid hd.keep) (Below.refl _ _)) hpl.perm hpl.pos (by omega)⟩

/-- two answers at once -/
structure Both2 (w : World) (r q N : Nat) (first st : Int) (k X : Nat) (kd id v : Int) (f2 : Nat) (args2 : Array Value) (e : Ending) (W' : World) : Prop where
  ex : ∃ y g : Int, e = .returned (.tuple #[.int .i64 y, .int .i64 g]) ∧ Ld X id v W' ∧ Calls Try.prog f2 args2 W' fun e' W'' => e' = .returned (.tuple #[.int .i64 y, .int .i64 g]) ∧ PlX w r q N first st k X kd id v W''

theorem get_both (h : PlX w r q N first st k X kd id v W) : Calls Try.prog 17 #[.pointer (some ⟨r, 0, none⟩), .int .i64 id] W (Both2 w r q N first st k X kd id v 18 #[.pointer (some ⟨q, 0, none⟩), .int .i64 id]) := by
  obtain ⟨S, T, R, M, m, hpl, hc, hx, hf⟩ := h.ex
  by_cases hin : Has R id
  · obtain ⟨i, u, hi⟩ := has_get hin
    obtain ⟨j, hj⟩ := hpl.getM hi
    refine (get_in hpl.rk hi).mono ?_
    rintro e W' ⟨rfl, hb⟩
    have hd := did_same hpl.rk hb
    refine ⟨u, 0, rfl, ld_did hx hf hd.keep, (mget_in (hpl.mid hd.keep) hj).mono ?_⟩
    rintro e W'' ⟨rfl, rfl⟩
    exact ⟨rfl, h.later hb⟩
  · refine (get_out hpl.rk hin).mono ?_
    rintro e W' ⟨rfl, hb⟩
    have hd := did_same hpl.rk hb
    refine ⟨0, 30, rfl, ld_did hx hf hd.keep, (mget_out (hpl.mid hd.keep) (fun hh => hin (hpl.hasM.1 hh))).mono ?_⟩
    rintro e W'' ⟨rfl, rfl⟩
    exact ⟨rfl, h.later hb⟩

theorem give_both (h : PlX w r q N first st k X kd id v W) (hk : k ≤ 150) (a1 : 1 ≤ first) (a2 : first ≤ 1000) (b1 : 1 ≤ st) (b2 : st ≤ 1000) :
    Calls Try.prog 9 #[.pointer (some ⟨r, 0, none⟩), .int .i64 v] W (Both2 w r q N first st (k + 1) X kd id v 10 #[.pointer (some ⟨q, 0, none⟩), .int .i64 v]) := by
  obtain ⟨S, T, R, M, m, hpl, hc, hx, hf⟩ := h.ex
  have hlen := hpl.perm.length_eq
  have h64 := hpl.rk.size
  have hms : (m : Int) * st ≤ 150 * 1000 := Int.mul_le_mul (by omega) b2 (by omega) (by omega)
  have hms0 : 0 ≤ (m : Int) * st := Int.mul_nonneg (by omega) (by omega)
  by_cases hfull : R.length = N
  · refine (give_full hpl.rk hfull v).mono ?_
    rintro e W' ⟨rfl, hb⟩
    have hd := did_same hpl.rk hb
    refine ⟨0, 4, rfl, ld_did hx hf hd.keep, (mgive_full (hpl.mid hd.keep) (by omega) v).mono ?_⟩
    rintro e W'' ⟨rfl, hst⟩
    exact ⟨rfl, plx_step hpl hx hf m hd (mdid_same (hpl.mid hd.keep) (hst.below _)) hpl.perm hpl.pos (by omega)⟩
  · have hlt : R.length < N := by have := hpl.rk.len; omega
    refine (give_any hpl.rk hlt (by omega) (by omega) b1 b2 v).mono ?_
    rintro e W' ⟨p, hu, hh⟩
    have hcu := cnt_used b1 p (fun j hj => (hu j hj).2)
    have hcl := cnt_le R (first + (m : Int) * st)
    have hp64 : p ≤ 64 := by omega
    have hps : (p : Int) * st ≤ 64 * 1000 := Int.mul_le_mul (by omega) b2 (by omega) (by omega)
    have hps0 : 0 ≤ (p : Int) * st := Int.mul_nonneg (by omega) (by omega)
    rcases hh with ⟨g1, g2, rfl, hd⟩ | ⟨g1, _⟩
    · refine ⟨_, 0, rfl, ld_did hx hf hd.keep, (mgive_in (hpl.mid hd.keep) (by omega) (by omega) (by omega) b1 b2 v p hp64 (fun j hj => hpl.hasM.2 (hu j hj).2) (fun hh => g2 (hpl.hasM.1 hh))).mono ?_⟩
      rintro e W'' ⟨rfl, hm⟩
      have e1 : first + (m : Int) * st + ((p + 1 : Nat) : Int) * st = first + ((m + p + 1 : Nat) : Int) * st := by
        rw [show ((p + 1 : Nat) : Int) = (p : Int) + 1 by omega, show ((m + p + 1 : Nat) : Int) = (m : Int) + (p : Int) + 1 by omega, Int.add_mul, Int.add_mul, Int.add_mul]; omega
      have elt : first + (m : Int) * st + (p : Int) * st < first + (m : Int) * st + ((p + 1 : Nat) : Int) * st := by
        rw [show ((p + 1 : Nat) : Int) = (p : Int) + 1 by omega, Int.add_mul]; omega
      have hcn : (m + p + 1) + cnt (insR (first + (m : Int) * st + (p : Int) * st, v) R) (first + ((m + p + 1 : Nat) : Int) * st) ≤ k + 1 := by
        rw [← e1, cnt_insR, if_neg (by show ¬ _ ≤ first + (m : Int) * st + (p : Int) * st; omega)]
        have := cnt_anti R (Int.le_of_lt elt)
        omega
      rw [e1] at hd hm
      exact ⟨rfl, plx_step hpl hx hf (m + p + 1) hd hm (perm_ins hpl.perm) (pos_ins hpl.pos (by show 1 ≤ _; omega)) hcn⟩
    · omega
end

end Go.Proofs.Ytcecdcdnjbndiaa.plays
