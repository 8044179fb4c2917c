/-
  Given for 'Rows.HealthOwnSaid': what becomes of one parent changes nothing for the others, plain. No condition but those of the theorems.
-/
import Derived.Test.YtpidjekabnnmcaaHAwake

namespace Go.Proofs.Ytpidjekabnnmcaa.hp
open Go.RowKit mem find pb
set_option linter.unusedVariables false

theorem hit_now (D : HD) (k : Int) (f : RD → RD) : (D.hit k f).now = D.now := by unfold HD.hit; split; rfl; split <;> rfl
theorem goodR_key (x : RD) (n : Int) (t : Bool) : (goodR x n t).key = x.key := by unfold goodR; split; split <;> rfl; rfl
theorem badR_key (x : RD) (n c f : Int) (t : Bool) : (badR x n c f t).key = x.key := by unfold badR; split <;> rfl
theorem goodR_wi {x : RD} (n : Int) (t : Bool) (h : x.wi < 65536) : (goodR x n t).wi < 65536 := by
  unfold goodR
  split
  · split
    · show (0 : Nat) < 65536; omega
    · exact addw_lt _ _
  · exact h
theorem badR_wi {x : RD} (n c f : Int) (t : Bool) (h : x.wi < 65536) : (badR x n c f t).wi < 65536 := by
  unfold badR
  split
  · show badW x t < 65536
    unfold badW
    split
    · exact h
    · exact addw_lt _ _
  · exact h
/-- of a table of n parents: keys are as they came; nothing is known of any but the first -/
structure Oth (n : Nat) (D : HD) : Prop where
  len : D.R.length = n
  keys : ∀ (i : Nat) (x : RD), D.R[i]? = some x → x.key = (i : Int) + 1
  oth : ∀ (i : Nat) (x : RD), 1 ≤ i → D.R[i]? = some x → x.wi = 0 ∧ x.br = bk.zb
  wi : ∀ x ∈ D.R, x.wi < 65536
  n0 : 0 ≤ D.now
  n1 : D.now ≤ latest
theorem Oth.place1 {n : Nat} {D : HD} (h : Oth n D) (hn : 1 ≤ n) : D.place 1 = ((0 : Nat) : Int) := by
  have hx : D.R[0]? = some (D.R[0]'(by rw [h.len]; omega)) := List.getElem?_eq_getElem _
  have hk := h.keys 0 _ hx
  refine fnd_first (fun i hi => by omega) ?_ (by rw [h.len]; omega)
  unfold HD.placeOk
  rw [hx]
  simp [hk]
theorem Oth.placeN {n : Nat} {D : HD} (h : Oth n D) {k : Int} (hk : ¬ (1 ≤ k ∧ k ≤ (n : Int))) : D.place k = -1 := by
  refine fnd_none.2 fun i hi => ?_
  unfold HD.placeOk
  have hx : D.R[i]? = some (D.R[i]'hi) := List.getElem?_eq_getElem _
  have h1 := h.keys i _ hx
  rw [hx]
  have hl := h.len
  simp only [decide_eq_false_iff_not]
  omega
theorem Oth.set {n : Nat} {D : HD} (h : Oth n D) {x y : RD} (hx : D.R[0]? = some x) (hk : y.key = x.key) (hw : y.wi < 65536) : Oth n { D with R := D.R.set 0 y } := by
  refine ⟨by simp [h.len], fun i z hz => ?_, fun i z hi hz => ?_, fun z hz => ?_, h.n0, h.n1⟩
  · rw [List.getElem?_set] at hz
    by_cases e : 0 = i
    · subst e
      rw [if_pos rfl] at hz
      split at hz
      · cases hz; rw [hk]; exact h.keys 0 x hx
      · cases hz
    · rw [if_neg e] at hz; exact h.keys i z hz
  · rw [List.getElem?_set, if_neg (by omega)] at hz
    exact h.oth i z hi hz
  · rcases List.mem_or_eq_of_mem_set hz with h1 | h1
    · exact h.wi z h1
    · rw [h1]; exact hw
theorem Oth.hit1 {n : Nat} {D : HD} (h : Oth n D) (hn : 1 ≤ n) (f : RD → RD) (hk : ∀ x, (f x).key = x.key) (hw : ∀ x, x.wi < 65536 → (f x).wi < 65536) : Oth n (D.hit 1 f) := by
  have hx : D.R[0]? = some (D.R[0]'(by rw [h.len]; omega)) := List.getElem?_eq_getElem _
  have e : D.hit 1 f = { D with R := D.R.set 0 (f (D.R[0]'(by rw [h.len]; omega))) } := by
    unfold HD.hit
    rw [h.place1 hn]
    simp [hx]
  rw [e]
  exact h.set hx (hk _) (hw _ (h.wi _ (List.mem_of_getElem? hx)))
theorem Oth.hitN {n : Nat} {D : HD} (h : Oth n D) {k : Int} (hk : ¬ (1 ≤ k ∧ k ≤ (n : Int))) (f : RD → RD) : D.hit k f = D ∧ D.ec k = 30 := by
  have e := h.placeN hk
  unfold HD.hit HD.ec
  rw [e]
  exact ⟨rfl, rfl⟩
theorem Oth.try1 {n : Nat} {D : HD} (h : Oth n D) (hn : 1 ≤ n) : Oth n (D.tryKey 1) := by
  have hx : D.R[0]? = some (D.R[0]'(by rw [h.len]; omega)) := List.getElem?_eq_getElem _
  have e : D.tryKey 1 = { D with R := D.R.set 0 (tryR (D.R[0]'(by rw [h.len]; omega)) D.now) } := by
    unfold HD.tryKey HD.tried
    rw [h.place1 hn, rec_at, hx]
    rfl
  rw [e]
  exact h.set (y := tryR (D.R[0]'(by rw [h.len]; omega)) D.now) hx rfl (show (D.R[0]'(by rw [h.len]; omega)).wi < 65536 from h.wi _ (List.mem_of_getElem? hx))
theorem Oth.fold {n : Nat} (hn : 1 ≤ n) (l : List Int) : ∀ {D : HD}, Oth n D → (∀ k ∈ l, k = 1) → Oth n (l.foldl HD.tryKey D) := by
  induction l with
  | nil => intro D h _; exact h
  | cons k l ih =>
    intro D h hk
    rw [List.foldl_cons, hk k (by simp)]
    exact ih (h.try1 hn) fun k hk2 => hk k (by simp [hk2])
theorem dues_wants {t : Int} {ks : List Int} {Q : List (Int × Int)} {k : Int} (h : k ∈ pb.dues t ks Q) : k ∈ ks := by
  unfold pb.dues at h
  obtain ⟨x, hx, rfl⟩ := List.mem_map.1 h
  have h1 := (List.mem_filter.1 hx).2
  unfold pb.isDue at h1
  simp only [Bool.and_eq_true] at h1
  have h2 := h1.1
  unfold pb.wants at h2
  rw [List.any_eq_true] at h2
  obtain ⟨y, hy, e⟩ := h2
  have : y = x.1 := by simpa using e
  rw [← this]
  exact hy
theorem wnt_zb (x : RD) (h : x.br = bk.zb) (t : Int) : wnt x t = false := by
  unfold wnt
  rw [h, bk.st_cl rfl]
  rfl
theorem Oth.tick {n : Nat} {D : HD} (h : Oth n D) (hn : 1 ≤ n) : Oth n D.tick := by
  have hs : Oth n D.step := ⟨h.len, h.keys, h.oth, h.wi, by have := h.n0; show 0 ≤ min (D.now + 1) latest; unfold latest; omega, by show min (D.now + 1) latest ≤ latest; unfold latest; omega⟩
  refine Oth.fold hn _ hs fun k hk => ?_
  have h1 := dues_wants hk
  unfold wants at h1
  obtain ⟨y, hy, rfl⟩ := List.mem_map.1 h1
  obtain ⟨hy1, hy2⟩ := List.mem_filter.1 hy
  obtain ⟨i, hi⟩ := List.getElem?_of_mem hy1
  by_cases h0 : i = 0
  · subst h0; have := h.keys 0 y hi; omega
  · have := (h.oth i y (by omega) hi).2
    rw [wnt_zb y this] at hy2
    cases hy2
theorem Oth.start {n : Nat} (f k e : Int) (A : Option Addr) (c : Nat) : Oth n (HD.new (cfOf n f k e A c)) := by
  have key : ∀ (ps : List PK) (s : TS), s.left = [] → (ps.foldl tstep s).left = [] ∧ (ps.foldl tstep s).out = s.out ++ (List.range ps.length).map (fun (i : Nat) => newR (s.last + 1 + (i : Int)) (ps.getD i ⟨⟨#[]⟩, 0, ⟨#[]⟩, 0, 0⟩)) := by
    intro ps
    induction ps with
    | nil => intro s hs; exact ⟨hs, by simp⟩
    | cons p ps ih =>
      intro s hs
      have hp : pfind s.left p < 0 := by rw [hs]; show (-1 : Int) < 0; decide
      rw [List.foldl_cons, tstep_new hp]
      obtain ⟨h1, h2⟩ := ih ⟨s.left, s.out ++ [newR (s.last + 1) p], s.last + 1, pb.ins (s.last + 1) s.Q⟩ hs
      refine ⟨h1, ?_⟩
      rw [h2]
      simp only [List.length_cons, List.range_succ_eq_map, List.map_cons, List.map_map, List.append_assoc]
      congr 1
      simp only [List.singleton_append, List.getD_cons_zero, Int.natCast_zero, Int.add_zero, List.cons.injEq, true_and]
      apply List.map_congr_left
      intro i _
      simp only [Function.comp, List.getD_cons_succ]
      congr 1
      omega
  have hR : (HD.new (cfOf n f k e A c)).R = (List.range n).map (fun (i : Nat) => newR ((i : Int) + 1) (((pasOf n).map PaD.pk).getD i ⟨⟨#[]⟩, 0, ⟨#[]⟩, 0, 0⟩)) := by
    have h := (key ((pasOf n).map PaD.pk) (s0of ⟨0, 0, 0, [], 0, e, []⟩) rfl).2
    have hl : ((pasOf n).map PaD.pk).length = n := by rw [List.length_map, pasOf_len]
    rw [hl] at h
    show (tsOf _ ((pasOf n).map PaD.pk)).out = _
    refine Eq.trans h ?_
    show [] ++ _ = _
    rw [List.nil_append]
    apply List.map_congr_left
    intro i _
    congr 1
    show (0 : Int) + 1 + (i : Int) = (i : Int) + 1
    omega
  have hget : ∀ (i : Nat) (x : RD), (HD.new (cfOf n f k e A c)).R[i]? = some x → x.key = (i : Int) + 1 ∧ x.wi = 0 ∧ x.br = bk.zb := by
    intro i x hx
    rw [hR, List.getElem?_map] at hx
    obtain ⟨j, hj, rfl⟩ := Option.map_eq_some_iff.1 hx
    have hlt := (List.getElem?_eq_some_iff.1 hj).1
    rw [List.length_range] at hlt
    rw [List.getElem?_range hlt] at hj
    cases hj
    exact ⟨rfl, rfl, rfl⟩
  refine ⟨by rw [hR]; simp, fun i x hx => (hget i x hx).1, fun i x _ hx => (hget i x hx).2, fun x hx => ?_, by show (0 : Int) ≤ 0; omega, by show (0 : Int) ≤ latest; unfold latest; omega⟩
  obtain ⟨i, hi⟩ := List.getElem?_of_mem hx
  rw [(hget i x hi).2.1]
  omega
end Go.Proofs.Ytpidjekabnnmcaa.hp
