/-
  Given for the seat's laws: an order of places by their scores, over plain lists: there is one, and what becomes of it when one is left out, or gets a greater score, or all stand in another row. No program, no memory.
-/
import Derived.WalkKit
namespace Go.Proofs.Ytimlcjdpnhhjdaa.rk
open Go
set_option linter.unusedVariables false
set_option linter.unusedSimpArgs false

/-- a score: is there one, and which -/
structure Sc where
  has : Bool
  top : Int

theorem sc_ext {x y : Sc} (h : x.has = y.has) (k : x.top = y.top) : x = y := by
  cases x; cases y
  simp at h k
  rw [h, k]
/-- the first comes before the second -/
def before (S : Nat → Sc) (a b : Nat) : Bool :=
  if (S a).has = (S b).has then
    if (S a).top = (S b).top then decide (a < b) else decide ((S b).top < (S a).top)
  else (S a).has

section
variable {S T : Nat → Sc} {n : Nat}

theorem before_irrefl (a : Nat) : before S a a = false := by simp [before]
theorem before_trans {a b c : Nat} (h : before S a b = true) (k : before S b c = true) : before S a c = true := by
  unfold before at *
  cases ha : (S a).has <;> cases hb : (S b).has <;> cases hc : (S c).has <;> simp [ha, hb, hc] at h k ⊢
  all_goals
    split at h <;> split at k <;> split <;> (try simp only [decide_eq_true_eq] at *) <;> omega
theorem before_total (a b : Nat) (h : a ≠ b) : before S a b = true ∨ before S b a = true := by
  unfold before
  cases ha : (S a).has <;> cases hb : (S b).has <;> simp
  all_goals
    by_cases e : (S a).top = (S b).top
    · simp [e]; omega
    · have e' : ¬ (S b).top = (S a).top := fun x => e x.symm
      simp [e, e']; omega
theorem before_asymm {a b : Nat} (h : before S a b = true) : before S b a = false := by
  cases hb : before S b a
  · rfl
  · have := before_trans h hb
    rw [before_irrefl] at this
    cases this
theorem before_ne {a b : Nat} (h : before S a b = true) : a ≠ b := by
  rintro rfl
  rw [before_irrefl] at h
  cases h
theorem before_congr {a b : Nat} (ha : S a = T a) (hb : S b = T b) : before S a b = before T a b := by
  unfold before
  rw [ha, hb]

/-- THE ORDER of the places 0 to n - 1 -/
structure Ord (S : Nat → Sc) (n : Nat) (o : List Nat) : Prop where
  perm : o.Perm (List.range n)
  down : o.Pairwise (fun a b => before S a b = true)

theorem one_order {l o : List Nat} (hp : l.Perm o) (hl : l.Pairwise (fun a b => before S a b = true)) (ho : o.Pairwise (fun a b => before S a b = true)) : l = o :=
  List.Perm.eq_of_pairwise (le := fun a b => before S a b = true) (fun a b _ _ h k => by rw [before_asymm h] at k; cases k) hl ho hp

theorem Ord.one {o p : List Nat} (h : Ord S n o) (k : Ord S n p) : o = p := one_order (h.perm.trans k.perm.symm) h.down k.down
theorem Ord.len {o : List Nat} (h : Ord S n o) : o.length = n := by have := h.perm.length_eq; simpa using this
theorem Ord.mem {o : List Nat} (h : Ord S n o) {a : Nat} : a ∈ o ↔ a < n := by rw [h.perm.mem_iff, List.mem_range]
theorem Ord.nodup {o : List Nat} (h : Ord S n o) : o.Nodup := h.perm.nodup_iff.2 List.nodup_range
theorem Ord.congr {o : List Nat} (h : Ord S n o) (hS : ∀ i, i < n → S i = T i) : Ord T n o :=
  ⟨h.perm, h.down.imp_of_mem (fun ha hb k => by rw [← before_congr (hS _ (h.mem.1 ha)) (hS _ (h.mem.1 hb))]; exact k)⟩
theorem Ord.lt {o : List Nat} (h : Ord S n o) {i x : Nat} (hi : o[i]? = some x) : x < n := h.mem.1 (List.mem_of_getElem? hi)
theorem Ord.step {o : List Nat} (h : Ord S n o) {i j x y : Nat} (hij : i < j) (hx : o[i]? = some x) (hy : o[j]? = some y) : before S x y = true := by
  obtain ⟨hi, rfl⟩ := List.getElem?_eq_some_iff.1 hx
  obtain ⟨hj, rfl⟩ := List.getElem?_eq_some_iff.1 hy
  exact (List.pairwise_iff_getElem.1 h.down) i j hi hj hij

/-! ### one left out -/
def shift (which j : Nat) : Nat := if which < j then j - 1 else j
def skip (which j : Nat) : Nat := if j < which then j else j + 1
/-- what is left without one, those above it one less -/
def wo (o : List Nat) (which : Nat) : List Nat := o.filter (fun j => decide (j ≠ which))
def less (o : List Nat) (which : Nat) : List Nat := (wo o which).map (shift which)

theorem shift_range {n which : Nat} (h : which < n) : ((List.range n).filter (fun j => decide (j ≠ which))).map (shift which) = List.range (n - 1) := by
  have e : List.range n = List.range which ++ which :: (List.range (n - 1 - which)).map (fun j => which + 1 + j) := by
    have h1 : n = which + (1 + (n - 1 - which)) := by omega
    conv => lhs; rw [h1, List.range_add, List.range_add]
    simp [Function.comp_def, Nat.add_assoc]
  have e2 : List.range (n - 1) = List.range which ++ (List.range (n - 1 - which)).map (fun j => which + j) := by
    have h1 : n - 1 = which + (n - 1 - which) := by omega
    conv => lhs; rw [h1, List.range_add]
  rw [e, List.filter_append, List.map_append, e2]
  congr 1
  · have : (List.range which).filter (fun j => decide (j ≠ which)) = List.range which := by
      rw [List.filter_eq_self]
      intro a ha
      rw [List.mem_range] at ha
      simp; omega
    rw [this]
    conv => rhs; rw [← List.map_id (List.range which)]
    refine List.map_congr_left fun a ha => ?_
    rw [List.mem_range] at ha
    unfold shift
    rw [if_neg (by omega)]; rfl
  · rw [List.filter_cons_of_neg (by simp)]
    have : ((List.range (n - 1 - which)).map (fun j => which + 1 + j)).filter (fun j => decide (j ≠ which)) = (List.range (n - 1 - which)).map (fun j => which + 1 + j) := by
      rw [List.filter_eq_self]
      intro a ha
      obtain ⟨b, _, rfl⟩ := List.mem_map.1 ha
      simp; omega
    rw [this, List.map_map]
    refine List.map_congr_left fun a _ => ?_
    unfold shift
    simp only [Function.comp]
    rw [if_pos (by omega)]; omega

theorem before_shift {which a b : Nat} (ha : a ≠ which) (hb : b ≠ which) : before (fun j => S (skip which j)) (shift which a) (shift which b) = before S a b := by
  have hs : ∀ c, c ≠ which → skip which (shift which c) = c := fun c hc => by
    unfold skip shift
    split <;> split <;> omega
  unfold before
  simp only [hs a ha, hs b hb]
  have : (decide (shift which a < shift which b)) = decide (a < b) := by
    unfold shift
    apply decide_eq_decide.2
    split <;> split <;> omega
  rw [this]

theorem Ord.less {o : List Nat} (h : Ord S n o) {which : Nat} (hw : which < n) : Ord (fun j => S (skip which j)) (n - 1) (less o which) := by
  refine ⟨?_, ?_⟩
  · rw [← shift_range hw]
    exact (h.perm.filter _).map _
  · unfold rk.less wo
    rw [List.pairwise_map]
    refine (h.down.filter _).imp_of_mem (fun ha hb k => ?_)
    rw [List.mem_filter] at ha hb
    rw [before_shift (by simpa using ha.2) (by simpa using hb.2)]
    exact k

/-! ### a greater score -/
theorem wo_same {o p : List Nat} {which : Nat} (h : Ord S n o) (k : Ord T n p) (hS : ∀ i, i < n → i ≠ which → S i = T i) : wo o which = wo p which := by
  refine one_order (S := S) ((h.perm.trans k.perm.symm).filter _) (h.down.filter _) ?_
  refine (k.down.filter _).imp_of_mem (fun ha hb x => ?_)
  unfold wo at ha hb
  rw [List.mem_filter] at ha hb
  rw [before_congr (hS _ (k.mem.1 ha.1) (by simpa using ha.2)) (hS _ (k.mem.1 hb.1) (by simpa using hb.2))]
  exact x

/-- where it stands -/
def spot (o : List Nat) (which : Nat) : Nat := o.idxOf which
theorem spot_count {o : List Nat} (h : o.Pairwise (fun a b => before S a b = true)) {which : Nat} (hw : which ∈ o) : spot o which = o.countP (fun j => before S j which) := by
  unfold spot
  induction o with
  | nil => simp at hw
  | cons a o ih =>
    rw [List.pairwise_cons] at h
    by_cases e : a = which
    · subst e
      rw [List.idxOf_cons_self, List.countP_cons_of_neg (by rw [before_irrefl]; simp)]
      symm
      rw [List.countP_eq_zero]
      intro b hb
      rw [before_asymm (h.1 b hb)]
      simp
    · have hm : which ∈ o := by
        rcases List.mem_cons.1 hw with x | x
        · exact absurd x.symm e
        · exact x
      have hc : (a :: o).countP (fun j => before S j which) = o.countP (fun j => before S j which) + 1 := List.countP_cons_of_pos (h.1 _ hm)
      rw [List.idxOf_cons, ih h.2 hm, hc]
      have : (a == which) = false := by simpa using e
      rw [this]; rfl
theorem Ord.spot {o : List Nat} (h : Ord S n o) {which : Nat} (hw : which < n) : spot o which = (List.range n).countP (fun j => before S j which) := by
  rw [spot_count h.down (h.mem.2 hw), h.perm.countP_eq]
/-- a score that is no smaller -/
def most (x y : Sc) : Prop := if x.has = y.has then x.top ≤ y.top else y.has = true
theorem before_most {which j : Nat} (hj : S j = T j) (hm : most (S which) (T which)) (h : before T j which = true) (hne : j ≠ which) : before S j which = true := by
  unfold most before at *
  rw [hj]
  cases h1 : (T j).has <;> cases h2 : (T which).has <;> cases h3 : (S which).has <;> simp [h1, h2, h3] at h hm ⊢
  all_goals
    split at h <;> split <;> simp_all <;> omega
theorem spot_le {o p : List Nat} {which : Nat} (h : Ord S n o) (k : Ord T n p) (hw : which < n) (hS : ∀ i, i < n → i ≠ which → S i = T i) (hm : most (S which) (T which)) : spot p which ≤ spot o which := by
  rw [h.spot hw, k.spot hw]
  refine List.countP_mono_left fun j hj hx => ?_
  have hne := before_ne hx
  exact before_most (hS j (List.mem_range.1 hj) hne) hm hx hne

/-! ### another row -/
theorem inj_of_nodup {f : Nat → Nat} (h : ((List.range n).map f).Nodup) {a b : Nat} (ha : a < n) (hb : b < n) (e : f a = f b) : a = b := by
  unfold List.Nodup at h
  rw [List.pairwise_map, List.pairwise_iff_getElem] at h
  rcases Nat.lt_trichotomy a b with x | x | x
  · exact absurd (by rw [List.getElem_range, List.getElem_range]; exact e) (h a b (by simpa using ha) (by simpa using hb) x)
  · exact x
  · exact absurd (by rw [List.getElem_range, List.getElem_range]; exact e.symm) (h b a (by simpa using hb) (by simpa using ha) x)
theorem Ord.turned {o p : List Nat} {f : Nat → Nat} (h : Ord S n o) (k : Ord (fun j => S (f j)) n p) (hf : ((List.range n).map f).Perm (List.range n)) (hu : ∀ i j, i < n → j < n → S i = S j → i = j) : o = p.map f := by
  have hlt : ∀ j, j < n → f j < n := fun j hj => by
    have : f j ∈ (List.range n).map f := List.mem_map.2 ⟨j, List.mem_range.2 hj, rfl⟩
    rw [hf.mem_iff] at this
    exact List.mem_range.1 this
  refine one_order (S := S) (h.perm.trans ((k.perm.map f).trans hf).symm) h.down ?_
  rw [List.pairwise_map]
  have hnd := k.nodup
  have hfn : ((List.range n).map f).Nodup := hf.nodup_iff.2 List.nodup_range
  refine (k.down.and hnd).imp_of_mem (fun {a b} ha hb x => ?_)
  obtain ⟨x, hne⟩ := x
  have ha := k.mem.1 ha
  have hb := k.mem.1 hb
  have hfne : f a ≠ f b := fun e => hne (inj_of_nodup hfn ha hb e)
  unfold before at x ⊢
  split at x
  · next h1 =>
    rw [if_pos h1]
    split at x
    · next h2 =>
      refine absurd (hu _ _ (hlt a ha) (hlt b hb) ?_) hfne
      show S (f a) = S (f b)
      exact sc_ext h1 h2
    · next h2 =>
      rw [if_neg h2]
      exact x
  · next h1 =>
    rw [if_neg h1]
    exact x

/-! ### the best one of those that are left, again and again -/
structure Sel (S : Nat → Sc) (n : Nat) (o : List Nat) : Prop where
  nodup : o.Nodup
  lt : ∀ a ∈ o, a < n
  down : o.Pairwise (fun a b => before S a b = true)
  rest : ∀ a ∈ o, ∀ b, b < n → b ∉ o → before S a b = true
theorem Sel.nil : Sel S n [] := ⟨List.nodup_nil, by simp, List.Pairwise.nil, by simp⟩
theorem Sel.add {o : List Nat} (h : Sel S n o) {b : Nat} (hb : b < n) (hn : b ∉ o) (hm : ∀ c, c < n → c ∉ o → c ≠ b → before S b c = true) : Sel S n (o ++ [b]) := by
  refine ⟨?_, ?_, ?_, ?_⟩
  · rw [List.nodup_append]
    refine ⟨h.nodup, by simp, ?_⟩
    intro a ha c hc
    simp at hc
    subst hc
    rintro rfl
    exact hn ha
  · intro a ha
    rcases List.mem_append.1 ha with x | x
    · exact h.lt a x
    · simp at x; omega
  · rw [List.pairwise_append]
    refine ⟨h.down, by simp, ?_⟩
    intro a ha c hc
    simp at hc
    subst hc
    exact h.rest a ha c hb hn
  · intro a ha c hc hcn
    have hc1 : c ∉ o := fun x => hcn (List.mem_append_left _ x)
    have hc2 : c ≠ b := fun x => hcn (by simp [x])
    rcases List.mem_append.1 ha with x | x
    · exact h.rest a x c hc hc1
    · simp at x
      subst x
      exact hm c hc hc1 hc2
theorem pigeon : ∀ {n : Nat} {o : List Nat}, o.Nodup → (∀ a ∈ o, a < n) → n < o.length → False
  | 0, o, _, hlt, hl => by
    cases o with
    | nil => simp at hl
    | cons a o => exact absurd (hlt a (by simp)) (by omega)
  | n + 1, o, hn, hlt, hl => by
    refine pigeon (n := n) (o := o.erase n) (hn.erase n) (fun a ha => ?_) ?_
    · rw [hn.mem_erase_iff] at ha
      have := hlt a ha.2
      omega
    · by_cases hm : n ∈ o
      · rw [List.length_erase_of_mem hm]; omega
      · rw [List.erase_of_not_mem hm]; omega
theorem perm_of_nodup : ∀ {n : Nat} {o : List Nat}, o.Nodup → (∀ a ∈ o, a < n) → o.length = n → o.Perm (List.range n)
  | 0, o, _, _, hl => by rw [List.length_eq_zero_iff] at hl; subst hl; exact .refl _
  | n + 1, o, hn, hlt, hl => by
    by_cases hm : n ∈ o
    · have he : (o.erase n).length = n := by rw [List.length_erase_of_mem hm, hl]; rfl
      have hp := perm_of_nodup (n := n) (o := o.erase n) (hn.erase n) (fun a ha => by
        rw [hn.mem_erase_iff] at ha
        have := hlt a ha.2
        omega) he
      rw [List.range_succ]
      exact (List.perm_cons_erase hm).trans ((hp.cons n).trans (List.perm_append_singleton n _).symm)
    · exfalso
      have hsub : ∀ a ∈ o, a < n := fun a ha => by
        have := hlt a ha
        have : a ≠ n := fun e => hm (e ▸ ha)
        omega
      exact pigeon hn hsub (by omega)
theorem Sel.ord {o : List Nat} (h : Sel S n o) (hl : o.length = n) : Ord S n o := by
  refine ⟨?_, h.down⟩
  exact perm_of_nodup h.nodup h.lt hl
end
end Go.Proofs.Ytimlcjdpnhhjdaa.rk
