/-
  Given for 'Rows.HealthKeptSaid': tables of the law's own parents, plain and in memory. No condition but those of the theorems.
-/
import Derived.Test.YtpidjekabnnmcaaHAwake
import Derived.Test.YtpidjekabnnmcaaQIn

namespace Go.Proofs.Ytpidjekabnnmcaa.hp
open Go.RowKit mem find pb
set_option linter.unusedVariables false

theorem hit_now (D : HD) (k : Int) (f : RD → RD) : (D.hit k f).now = D.now := by unfold HD.hit; split; rfl; split <;> rfl
theorem goodR_key (x : RD) (n : Int) (t : Bool) : (goodR x n t).key = x.key := by unfold goodR; split; split <;> rfl; rfl
theorem badR_key (x : RD) (n c f : Int) (t : Bool) : (badR x n c f t).key = x.key := by unfold badR; split <;> rfl
theorem goodR_wi {x : RD} (n : Int) (t : Bool) (h : x.wi < 65536) : (goodR x n t).wi < 65536 := by
  unfold goodR
  split
  · split
    · show (0 : Nat) < 65536; omega
    · exact addw_lt _ _
  · exact h
theorem badR_wi {x : RD} (n c f : Int) (t : Bool) (h : x.wi < 65536) : (badR x n c f t).wi < 65536 := by
  unfold badR
  split
  · show badW x t < 65536
    unfold badW
    split
    · exact h
    · exact addw_lt _ _
  · exact h
/-- of a table of n parents: keys are as they came; nothing is known of any but the first -/
structure Oth (n : Nat) (D : HD) : Prop where
  len : D.R.length = n
  keys : ∀ (i : Nat) (x : RD), D.R[i]? = some x → x.key = (i : Int) + 1
  oth : ∀ (i : Nat) (x : RD), 1 ≤ i → D.R[i]? = some x → x.wi = 0 ∧ x.br = bk.zb
  wi : ∀ x ∈ D.R, x.wi < 65536
  n0 : 0 ≤ D.now
  n1 : D.now ≤ latest
theorem Oth.place1 {n : Nat} {D : HD} (h : Oth n D) (hn : 1 ≤ n) : D.place 1 = ((0 : Nat) : Int) := by
  have hx : D.R[0]? = some (D.R[0]'(by rw [h.len]; omega)) := List.getElem?_eq_getElem _
  have hk := h.keys 0 _ hx
  refine fnd_first (fun i hi => by omega) ?_ (by rw [h.len]; omega)
  unfold HD.placeOk
  rw [hx]
  simp [hk]
theorem Oth.placeN {n : Nat} {D : HD} (h : Oth n D) {k : Int} (hk : ¬ (1 ≤ k ∧ k ≤ (n : Int))) : D.place k = -1 := by
  refine fnd_none.2 fun i hi => ?_
  unfold HD.placeOk
  have hx : D.R[i]? = some (D.R[i]'hi) := List.getElem?_eq_getElem _
  have h1 := h.keys i _ hx
  rw [hx]
  have hl := h.len
  simp only [decide_eq_false_iff_not]
  omega
theorem Oth.set {n : Nat} {D : HD} (h : Oth n D) {x y : RD} (hx : D.R[0]? = some x) (hk : y.key = x.key) (hw : y.wi < 65536) : Oth n { D with R := D.R.set 0 y } := by
  refine ⟨by simp [h.len], fun i z hz => ?_, fun i z hi hz => ?_, fun z hz => ?_, h.n0, h.n1⟩
  · rw [List.getElem?_set] at hz
    by_cases e : 0 = i
    · subst e
      rw [if_pos rfl] at hz
      split at hz
      · cases hz; rw [hk]; exact h.keys 0 x hx
      · cases hz
    · rw [if_neg e] at hz; exact h.keys i z hz
  · rw [List.getElem?_set, if_neg (by omega)] at hz
    exact h.oth i z hi hz
  · rcases List.mem_or_eq_of_mem_set hz with h1 | h1
    · exact h.wi z h1
    · rw [h1]; exact hw
theorem Oth.hit1 {n : Nat} {D : HD} (h : Oth n D) (hn : 1 ≤ n) (f : RD → RD) (hk : ∀ x, (f x).key = x.key) (hw : ∀ x, x.wi < 65536 → (f x).wi < 65536) : Oth n (D.hit 1 f) := by
  have hx : D.R[0]? = some (D.R[0]'(by rw [h.len]; omega)) := List.getElem?_eq_getElem _
  have e : D.hit 1 f = { D with R := D.R.set 0 (f (D.R[0]'(by rw [h.len]; omega))) } := by
    unfold HD.hit
    rw [h.place1 hn]
    simp [hx]
  rw [e]
  exact h.set hx (hk _) (hw _ (h.wi _ (List.mem_of_getElem? hx)))
theorem Oth.hitN {n : Nat} {D : HD} (h : Oth n D) {k : Int} (hk : ¬ (1 ≤ k ∧ k ≤ (n : Int))) (f : RD → RD) : D.hit k f = D ∧ D.ec k = 30 := by
  have e := h.placeN hk
  unfold HD.hit HD.ec
  rw [e]
  exact ⟨rfl, rfl⟩
theorem Oth.try1 {n : Nat} {D : HD} (h : Oth n D) (hn : 1 ≤ n) : Oth n (D.tryKey 1) := by
  have hx : D.R[0]? = some (D.R[0]'(by rw [h.len]; omega)) := List.getElem?_eq_getElem _
  have e : D.tryKey 1 = { D with R := D.R.set 0 (tryR (D.R[0]'(by rw [h.len]; omega)) D.now) } := by
    unfold HD.tryKey HD.tried
    rw [h.place1 hn, rec_at, hx]
    rfl
  rw [e]
  exact h.set (y := tryR (D.R[0]'(by rw [h.len]; omega)) D.now) hx rfl (show (D.R[0]'(by rw [h.len]; omega)).wi < 65536 from h.wi _ (List.mem_of_getElem? hx))
theorem Oth.fold {n : Nat} (hn : 1 ≤ n) (l : List Int) : ∀ {D : HD}, Oth n D → (∀ k ∈ l, k = 1) → Oth n (l.foldl HD.tryKey D) := by
  induction l with
  | nil => intro D h _; exact h
  | cons k l ih =>
    intro D h hk
    rw [List.foldl_cons, hk k (by simp)]
    exact ih (h.try1 hn) fun k hk2 => hk k (by simp [hk2])
theorem dues_wants {t : Int} {ks : List Int} {Q : List (Int × Int)} {k : Int} (h : k ∈ pb.dues t ks Q) : k ∈ ks := by
  unfold pb.dues at h
  obtain ⟨x, hx, rfl⟩ := List.mem_map.1 h
  have h1 := (List.mem_filter.1 hx).2
  unfold pb.isDue at h1
  simp only [Bool.and_eq_true] at h1
  have h2 := h1.1
  unfold pb.wants at h2
  rw [List.any_eq_true] at h2
  obtain ⟨y, hy, e⟩ := h2
  have : y = x.1 := by simpa using e
  rw [← this]
  exact hy
theorem wnt_zb (x : RD) (h : x.br = bk.zb) (t : Int) : wnt x t = false := by
  unfold wnt
  rw [h, bk.st_cl rfl]
  rfl
theorem Oth.tick {n : Nat} {D : HD} (h : Oth n D) (hn : 1 ≤ n) : Oth n D.tick := by
  have hs : Oth n D.step := ⟨h.len, h.keys, h.oth, h.wi, by have := h.n0; show 0 ≤ min (D.now + 1) latest; unfold latest; omega, by show min (D.now + 1) latest ≤ latest; unfold latest; omega⟩
  refine Oth.fold hn _ hs fun k hk => ?_
  have h1 := dues_wants hk
  unfold wants at h1
  obtain ⟨y, hy, rfl⟩ := List.mem_map.1 h1
  obtain ⟨hy1, hy2⟩ := List.mem_filter.1 hy
  obtain ⟨i, hi⟩ := List.getElem?_of_mem hy1
  by_cases h0 : i = 0
  · subst h0; have := h.keys 0 y hi; omega
  · have := (h.oth i y (by omega) hi).2
    rw [wnt_zb y this] at hy2
    cases hy2
theorem Oth.start {n : Nat} (f k e : Int) (A : Option Addr) (c : Nat) : Oth n (HD.new (cfOf n f k e A c)) := by
  have key : ∀ (ps : List PK) (s : TS), s.left = [] → (ps.foldl tstep s).left = [] ∧ (ps.foldl tstep s).out = s.out ++ (List.range ps.length).map (fun (i : Nat) => newR (s.last + 1 + (i : Int)) (ps.getD i ⟨⟨#[]⟩, 0, ⟨#[]⟩, 0, 0⟩)) := by
    intro ps
    induction ps with
    | nil => intro s hs; exact ⟨hs, by simp⟩
    | cons p ps ih =>
      intro s hs
      have hp : pfind s.left p < 0 := by rw [hs]; show (-1 : Int) < 0; decide
      rw [List.foldl_cons, tstep_new hp]
      obtain ⟨h1, h2⟩ := ih ⟨s.left, s.out ++ [newR (s.last + 1) p], s.last + 1, pb.ins (s.last + 1) s.Q⟩ hs
      refine ⟨h1, ?_⟩
      rw [h2]
      simp only [List.length_cons, List.range_succ_eq_map, List.map_cons, List.map_map, List.append_assoc]
      congr 1
      simp only [List.singleton_append, List.getD_cons_zero, Int.natCast_zero, Int.add_zero, List.cons.injEq, true_and]
      apply List.map_congr_left
      intro i _
      simp only [Function.comp, List.getD_cons_succ]
      congr 1
      omega
  have hR : (HD.new (cfOf n f k e A c)).R = (List.range n).map (fun (i : Nat) => newR ((i : Int) + 1) (((pasOf n).map PaD.pk).getD i ⟨⟨#[]⟩, 0, ⟨#[]⟩, 0, 0⟩)) := by
    have h := (key ((pasOf n).map PaD.pk) (s0of ⟨0, 0, 0, [], 0, e, []⟩) rfl).2
    have hl : ((pasOf n).map PaD.pk).length = n := by rw [List.length_map, pasOf_len]
    rw [hl] at h
    show (tsOf _ ((pasOf n).map PaD.pk)).out = _
    refine Eq.trans h ?_
    show [] ++ _ = _
    rw [List.nil_append]
    apply List.map_congr_left
    intro i _
    congr 1
    show (0 : Int) + 1 + (i : Int) = (i : Int) + 1
    omega
  have hget : ∀ (i : Nat) (x : RD), (HD.new (cfOf n f k e A c)).R[i]? = some x → x.key = (i : Int) + 1 ∧ x.wi = 0 ∧ x.br = bk.zb := by
    intro i x hx
    rw [hR, List.getElem?_map] at hx
    obtain ⟨j, hj, rfl⟩ := Option.map_eq_some_iff.1 hx
    have hlt := (List.getElem?_eq_some_iff.1 hj).1
    rw [List.length_range] at hlt
    rw [List.getElem?_range hlt] at hj
    cases hj
    exact ⟨rfl, rfl, rfl⟩
  refine ⟨by rw [hR]; simp, fun i x hx => (hget i x hx).1, fun i x _ hx => (hget i x hx).2, fun x hx => ?_, by show (0 : Int) ≤ 0; omega, by show (0 : Int) ≤ latest; unfold latest; omega⟩
  obtain ⟨i, hi⟩ := List.getElem?_of_mem hx
  rw [(hget i x hi).2.1]
  omega

theorem pk_inj_chk : ((List.range 16).all fun i => (List.range 16).all fun j => decide (i = j) || !decide ((paOf i).pk = (paOf j).pk)) = true := by decide +kernel
theorem pk_inj {i j : Nat} (hi : i < 16) (hj : j < 16) (h : (paOf i).pk = (paOf j).pk) : i = j := by
  have hc := pk_inj_chk
  rw [List.all_eq_true] at hc
  have h1 := hc i (List.mem_range.2 hi)
  rw [List.all_eq_true] at h1
  have h2 := h1 j (List.mem_range.2 hj)
  rw [decide_eq_true h] at h2
  simpa using h2

/-- the records of parents, in this order -/
structure Kd (n : Nat) (D : HD) (rec : Nat → RD) (qs : List Nat) (last : Int) : Prop where
  R : D.R = qs.map rec
  nod : qs.Nodup
  lt : ∀ i ∈ qs, i < n
  key : ∀ i, i < n → 1 ≤ (rec i).key ∧ (rec i).key ≤ last
  kinj : ∀ i j, i < n → j < n → (rec i).key = (rec j).key → i = j
  pa : ∀ i, i < n → (rec i).pa = (paOf i).pk
  wi : ∀ i, i < n → (rec i).wi < 65536
  lst : D.last = last
  Qn : D.Q.length ≤ n
  Qk : ∀ x ∈ D.Q, x.1 ≤ last
section
variable {n : Nat} {D : HD} {rec : Nat → RD} {qs : List Nat} {last : Int}
theorem Kd.len (h : Kd n D rec qs last) : D.R.length = qs.length := by rw [h.R, List.length_map]
theorem nodup_len {n : Nat} : ∀ {qs : List Nat}, qs.Nodup → (∀ i ∈ qs, i < n) → qs.length ≤ n := by
  intro qs hn hl
  have h := List.Nodup.length_le_of_subset (l₂ := List.range n) hn (fun i hi => List.mem_range.2 (hl i hi))
  rwa [List.length_range] at h
theorem Kd.len_le (h : Kd n D rec qs last) : D.R.length ≤ n := by rw [h.len]; exact nodup_len h.nod h.lt
theorem Kd.rec_at (h : Kd n D rec qs last) {k i : Nat} (hk : qs[k]? = some i) : D.rec? (k : Int) = some (rec i) := by
  unfold HD.rec?
  rw [if_pos (by omega), Int.toNat_natCast, h.R, List.getElem?_map, hk]
  rfl
theorem Kd.place_at (h : Kd n D rec qs last) {k i : Nat} (hk : qs[k]? = some i) : D.place (rec i).key = (k : Int) := by
  have hil := h.lt i (List.mem_of_getElem? hk)
  have hkl := (List.getElem?_eq_some_iff.1 hk).1
  unfold HD.place
  refine fnd_only (by rw [h.len]; exact hkl) ?_ fun j hj hne => ?_
  · unfold HD.placeOk
    rw [h.R, List.getElem?_map, hk]
    simp
  · unfold HD.placeOk
    rw [h.len] at hj
    have hjj : qs[j]? = some (qs[j]'hj) := List.getElem?_eq_getElem hj
    rw [h.R, List.getElem?_map, hjj]
    simp only [Option.map_some, decide_eq_false_iff_not]
    intro e
    have := h.kinj _ _ (h.lt _ (List.mem_of_getElem? hjj)) hil e
    rw [this] at hjj
    exact hne ((List.getElem?_inj hj h.nod).1 (hjj.trans hk.symm))
theorem Kd.place_no (h : Kd n D rec qs last) {i : Nat} (hi : i < n) (hm : i ∉ qs) : D.place (rec i).key = -1 := by
  refine fnd_none.2 fun j hj => ?_
  rw [h.len] at hj
  have hjj : qs[j]? = some (qs[j]'hj) := List.getElem?_eq_getElem hj
  unfold HD.placeOk
  rw [h.R, List.getElem?_map, hjj]
  simp only [Option.map_some, decide_eq_false_iff_not]
  intro e
  have := h.kinj _ _ (h.lt _ (List.mem_of_getElem? hjj)) hi e
  exact hm (by rw [← this]; exact List.getElem_mem hj)
/-- an outcome -/
theorem Kd.hit (h : Kd n D rec qs last) (key : Int) (g : RD → RD) (hk : ∀ x, (g x).key = x.key) (hp : ∀ x, (g x).pa = x.pa) (hw : ∀ x, x.wi < 65536 → (g x).wi < 65536) : ∃ rec', Kd n (D.hit key g) rec' qs last ∧ ∀ i, i < n → (rec' i).key = (rec i).key := by
  unfold HD.hit
  by_cases hlt : D.place key < 0
  · rw [if_pos hlt]; exact ⟨rec, h, fun _ _ => rfl⟩
  · rw [if_neg hlt]
    obtain ⟨k, hkk⟩ : ∃ k : Nat, D.place key = (k : Int) := ⟨(D.place key).toNat, by omega⟩
    rw [hkk, Int.toNat_natCast]
    cases hx : D.R[k]? with
    | none => exact ⟨rec, h, fun _ _ => rfl⟩
    | some x =>
      rw [h.R, List.getElem?_map] at hx
      obtain ⟨i, hi, rfl⟩ := Option.map_eq_some_iff.1 hx
      have hil := h.lt i (List.mem_of_getElem? hi)
      refine ⟨fun j => if j = i then g (rec i) else rec j, ⟨?_, h.nod, h.lt, fun j hj => ?_, fun a b ha hb e => ?_, fun j hj => ?_, fun j hj => ?_, h.lst, h.Qn, h.Qk⟩, fun j hj => ?_⟩
      · show D.R.set k (g (rec i)) = _
        rw [h.R]
        apply List.ext_getElem?
        intro j
        rw [List.getElem?_set, List.getElem?_map]
        by_cases e : k = j
        · subst e
          have hkl := (List.getElem?_eq_some_iff.1 hi).1
          rw [if_pos rfl, List.length_map, if_pos hkl, List.getElem?_map, hi]
          simp
        · rw [if_neg e, List.getElem?_map]
          cases hj : qs[j]? with
          | none => rfl
          | some m =>
            have : m ≠ i := fun e' => e ((List.getElem?_inj (List.getElem?_eq_some_iff.1 hi).1 h.nod).1 (hi.trans (e' ▸ hj.symm)))
            simp [this]
      · by_cases e : j = i
        · subst e; simp only [if_true]; rw [hk]; exact h.key j hj
        · simp only [if_neg e]; exact h.key j hj
      · have hka : ∀ a, (if a = i then g (rec i) else rec a).key = (rec a).key := fun a => by
          by_cases e : a = i
          · subst e; simp [hk]
          · simp [e]
        simp only [hka] at e
        exact h.kinj a b ha hb e
      · by_cases e : j = i
        · subst e; simp only [if_true]; rw [hp]; exact h.pa j hj
        · simp only [if_neg e]; exact h.pa j hj
      · by_cases e : j = i
        · subst e; simp only [if_true]; exact hw _ (h.wi j hj)
        · simp only [if_neg e]; exact h.wi j hj
      · by_cases e : j = i
        · subst e; simp [hk]
        · simp [e]

/-! ### a reload -/
theorem find_in {rec : Nat → RD} {n m : Nat} (hn : n ≤ 16) (hpa : ∀ i, i < n → (rec i).pa = (paOf i).pk) (hm : m < n) : ∀ {xs : List Nat}, xs.Nodup → (∀ i ∈ xs, i < n) →
    (m ∈ xs → pfind (xs.map rec) (paOf m).pk = (xs.idxOf m : Int)) ∧ (m ∉ xs → pfind (xs.map rec) (paOf m).pk = -1) := by
  intro xs hnd hlt
  have hok : ∀ (i : Nat), i < xs.length → ((match (xs.map rec)[i]? with | some x => decide (x.pa = (paOf m).pk) | none => false) = true ↔ xs[i]? = some m) := fun i hi => by
    have hx : xs[i]? = some (xs[i]'hi) := List.getElem?_eq_getElem hi
    have hxl := hlt _ (List.getElem_mem hi)
    rw [List.getElem?_map, hx]
    simp only [Option.map_some, decide_eq_true_eq, hpa _ hxl, Option.some.injEq]
    constructor
    · intro e; exact pk_inj (by omega) (by omega) e
    · intro e; rw [e]
  constructor
  · intro hmem
    have hil := List.idxOf_lt_length_iff.2 hmem
    have hix : xs[xs.idxOf m]? = some m := by rw [List.getElem?_eq_getElem hil, List.getElem_idxOf]
    unfold pfind
    refine fnd_only (by rw [List.length_map]; exact hil) ((hok _ hil).2 hix) fun j hj hne => ?_
    rw [List.length_map] at hj
    cases hc : (match (xs.map rec)[j]? with | some x => decide (x.pa = (paOf m).pk) | none => false) with
    | false => exact hc
    | true => exact absurd ((List.getElem?_inj hj hnd).1 (((hok j hj).1 hc).trans hix.symm)) hne
  · intro hmem
    unfold pfind
    refine fnd_none.2 fun j hj => ?_
    rw [List.length_map] at hj
    cases hc : (match (xs.map rec)[j]? with | some x => decide (x.pa = (paOf m).pk) | none => false) with
    | false => exact hc
    | true => exact absurd (List.mem_of_getElem? ((hok j hj).1 hc)) hmem

theorem erase_map {α β : Type} (f : α → β) : ∀ (l : List α) (k : Nat), (l.map f).eraseIdx k = (l.eraseIdx k).map f
  | [], k => rfl
  | x :: l, 0 => rfl
  | x :: l, k + 1 => by show f x :: (l.map f).eraseIdx k = f x :: (l.eraseIdx k).map f; rw [erase_map f l k]
/-- what a reload has come to: the parents ms are through; a is the only one that may be new -/
structure Rl (n a : Nat) (rec : Nat → RD) (qs : List Nat) (last : Int) (Q0 : List (Int × Int)) (ms : List Nat) (s : TS) : Prop where
  left : s.left = (qs.filter (fun i => !ms.contains i)).map rec
  out : s.out = ms.map (fun m => if m ∈ qs then rec m else newR (last + 1) (paOf m).pk)
  last : s.last = last + (if a ∈ ms ∧ a ∉ qs then 1 else 0)
  Qn : s.Q.length ≤ Q0.length + (if a ∈ ms ∧ a ∉ qs then 1 else 0)
  Qk : ∀ x ∈ s.Q, x.1 ≤ s.last
theorem rl_step {a m : Nat} {ms : List Nat} {s : TS} {Q0 : List (Int × Int)} (hn : n ≤ 16) (hpa : ∀ i, i < n → (rec i).pa = (paOf i).pk) (hnd : qs.Nodup) (hlt : ∀ i ∈ qs, i < n) (h : Rl n a rec qs last Q0 ms s) (hm : m < n) (hms : m ∉ ms) (hmiss : m ∉ qs → m = a) : Rl n a rec qs last Q0 (ms ++ [m]) (tstep s (paOf m).pk) := by
  have hfn : (qs.filter (fun i => !ms.contains i)).Nodup := hnd.filter _
  have hfl : ∀ i ∈ qs.filter (fun i => !ms.contains i), i < n := fun i hi => hlt i (List.mem_filter.1 hi).1
  obtain ⟨f1, f2⟩ := find_in hn hpa hm hfn hfl
  have hmem : m ∈ qs.filter (fun i => !ms.contains i) ↔ m ∈ qs := by
    rw [List.mem_filter]
    simp [hms]
  by_cases hq : m ∈ qs
  · have h1 := f1 (hmem.2 hq)
    have hil := List.idxOf_lt_length_iff.2 (hmem.2 hq)
    have hix : s.left[(qs.filter (fun i => !ms.contains i)).idxOf m]? = some (rec m) := by
      rw [h.left, List.getElem?_map, List.getElem?_eq_getElem hil, List.getElem_idxOf]
      rfl
    rw [← h.left] at h1
    rw [tstep_old h1 hix]
    have hsame : (a ∈ ms ++ [m] ∧ a ∉ qs) ↔ (a ∈ ms ∧ a ∉ qs) := by
      rw [List.mem_append, List.mem_singleton]
      constructor
      · rintro ⟨h1 | h1, h2⟩
        · exact ⟨h1, h2⟩
        · subst h1; exact absurd hq h2
      · rintro ⟨h1, h2⟩; exact ⟨.inl h1, h2⟩
    refine ⟨?_, ?_, ?_, ?_, h.Qk⟩
    · show s.left.eraseIdx _ = _
      rw [h.left, erase_map]
      congr 1
      have he : (qs.filter (fun i => !ms.contains i)).eraseIdx ((qs.filter (fun i => !ms.contains i)).idxOf m) = (qs.filter (fun i => !ms.contains i)).erase m := (List.erase_eq_eraseIdx_of_idxOf rfl).symm
      rw [he, hfn.erase_eq_filter, List.filter_filter]
      apply List.filter_congr
      intro i _
      by_cases e1 : i = m
      · subst e1; simp
      · by_cases e2 : i ∈ ms
        · simp [e1, e2]
        · simp [e1, e2]
    · show s.out ++ [rec m] = _
      rw [h.out, List.map_append]
      simp [hq]
    · show s.last = _
      rw [h.last]
      simp only [hsame]
    · show s.Q.length ≤ _
      have := h.Qn
      simp only [hsame]
      exact this
  · have h1 := f2 (fun e => hq (hmem.1 e))
    rw [← h.left] at h1
    rw [tstep_new (by rw [h1]; decide)]
    have hma := hmiss hq
    subst hma
    have hl0 : s.last = last := by rw [h.last, if_neg (fun e => hms e.1)]; omega
    have hq0 : s.Q.length ≤ Q0.length := by have := h.Qn; rw [if_neg (fun e => hms e.1)] at this; omega
    have hyes : m ∈ ms ++ [m] ∧ m ∉ qs := ⟨by simp, hq⟩
    refine ⟨?_, ?_, ?_, ?_, fun x hx => ?_⟩
    · show s.left = _
      rw [h.left]
      congr 1
      apply List.filter_congr
      intro i hi
      have : i ≠ m := fun e => hq (e ▸ hi)
      simp [this]
    · show s.out ++ [newR (s.last + 1) (paOf m).pk] = _
      rw [h.out, List.map_append, hl0]
      simp [hq]
    · show s.last + 1 = _
      rw [if_pos hyes, hl0]
    · show (pb.ins (s.last + 1) s.Q).length ≤ _
      rw [if_pos hyes, pb.ins_len]
      omega
    · show x.1 ≤ s.last + 1
      rcases ins_mem hx with h2 | h2
      · rw [h2]; exact Int.le_refl _
      · have := h.Qk x h2; omega
theorem rl_all {a : Nat} {Q0 : List (Int × Int)} (hn : n ≤ 16) (hpa : ∀ i, i < n → (rec i).pa = (paOf i).pk) (hnd : qs.Nodup) (hlt : ∀ i ∈ qs, i < n) : ∀ (ks ms : List Nat) (s : TS), (ms ++ ks).Nodup → (∀ m ∈ ks, m < n) → (∀ m ∈ ks, m ∉ qs → m = a) → Rl n a rec qs last Q0 ms s →
    Rl n a rec qs last Q0 (ms ++ ks) (((ks.map paOf).map PaD.pk).foldl tstep s) := by
  intro ks
  induction ks with
  | nil => intro ms s _ _ _ h; simpa using h
  | cons m ks ih =>
    intro ms s hd hl hms h
    have hd2 : (ms ++ [m] ++ ks).Nodup := by simpa using hd
    have hmm : m ∉ ms := fun e => by
      rw [List.nodup_append] at hd
      exact hd.2.2 m e m (by simp) rfl
    have h2 := ih (ms ++ [m]) (tstep s (paOf m).pk) hd2 (fun k hk => hl k (List.mem_cons_of_mem _ hk)) (fun k hk => hms k (List.mem_cons_of_mem _ hk)) (rl_step hn hpa hnd hlt h (hl m (by simp)) hmm (hms m (by simp)))
    simpa using h2
theorem dropK_mem {k : Int} {Q : List (Int × Int)} {x : Int × Int} (h : x ∈ dropK k Q) : x ∈ Q := by
  unfold dropK at h
  split at h
  · unfold pb.del at h
    rcases List.mem_append.1 h with h1 | h1
    · exact List.mem_of_mem_take h1
    · exact List.mem_of_mem_drop h1
  · exact h
theorem dropK_len (k : Int) (Q : List (Int × Int)) : (dropK k Q).length ≤ Q.length := by
  unfold dropK
  split
  · rename_i h
    have := pb.del_len h
    omega
  · exact Nat.le_refl _
theorem dropsOf_ok (l : List RD) : ∀ (Q : List (Int × Int)), (dropsOf l Q).length ≤ Q.length ∧ ∀ x ∈ dropsOf l Q, x ∈ Q := by
  induction l with
  | nil => intro Q; exact ⟨Nat.le_refl _, fun x hx => hx⟩
  | cons y l ih =>
    intro Q
    obtain ⟨h1, h2⟩ := ih (dropK y.key Q)
    have h3 := dropK_len y.key Q
    exact ⟨by show (dropsOf l (dropK y.key Q)).length ≤ _; omega, fun x hx => dropK_mem (h2 x hx)⟩
/-- a reload of some of the known parents -/
theorem Kd.known (h : Kd n D rec qs last) (hn : n ≤ 16) {ms : List Nat} (hnd : ms.Nodup) (hin : ∀ m ∈ ms, m ∈ qs) (d : CfD) (hd : d.ps = ms.map paOf) (hf : fitb d = true) : Kd n (D.reload d) rec ms last := by
  have hst : Rl n 0 rec qs last D.Q [] (s0of { D with ev := d.probe }) := ⟨by show D.R = _; rw [h.R, List.filter_eq_self.2 (fun i _ => by simp)], rfl, by show D.last = _; rw [h.lst]; simp, by show D.Q.length ≤ _; simp, fun x hx => by show x.1 ≤ D.last; rw [h.lst]; exact h.Qk x hx⟩
  have hr := rl_all hn h.pa h.nod h.lt ms [] _ (by simpa using hnd) (fun m hm => h.lt m (hin m hm)) (fun m hm hq => absurd (hin m hm) hq) hst
  rw [List.nil_append] at hr
  have e : D.reload d = HD.take { D with ev := d.probe } d := by unfold HD.reload; rw [hf]; rfl
  rw [e]
  unfold HD.take
  rw [hd]
  have hz : (if 0 ∈ ms ∧ 0 ∉ qs then (1 : Nat) else 0) = 0 := if_neg (fun e => e.2 (hin 0 e.1))
  have hzi : (if 0 ∈ ms ∧ 0 ∉ qs then (1 : Int) else 0) = 0 := if_neg (fun e => e.2 (hin 0 e.1))
  have hl : (tsOf { D with ev := d.probe } ((ms.map paOf).map PaD.pk)).last = last := by
    have := hr.last
    rw [hzi, Int.add_zero] at this
    exact this
  obtain ⟨q1, q2⟩ := dropsOf_ok (tsOf { D with ev := d.probe } ((ms.map paOf).map PaD.pk)).left (tsOf { D with ev := d.probe } ((ms.map paOf).map PaD.pk)).Q
  refine ⟨?_, hnd, fun i hi => h.lt i (hin i hi), h.key, h.kinj, h.pa, h.wi, hl, ?_, fun x hx => ?_⟩
  · show (tsOf { D with ev := d.probe } ((ms.map paOf).map PaD.pk)).out = _
    refine hr.out.trans ?_
    apply List.map_congr_left
    intro m hm
    rw [if_pos (hin m hm)]
  · show (dropsOf _ _).length ≤ n
    have h1 := hr.Qn
    rw [hz] at h1
    have h2 := h.Qn
    have h3 : (tsOf { D with ev := d.probe } ((ms.map paOf).map PaD.pk)).Q.length ≤ D.Q.length + 0 := h1
    omega
  · have h1 := hr.Qk x (q2 x hx)
    rw [show (((ms.map paOf).map PaD.pk).foldl tstep (s0of { D with ev := d.probe })).last = last from hl] at h1
    exact h1
/-- a reload of all, of whom one is gone -/
theorem Kd.again (h : Kd n D rec qs last) (hn : n ≤ 16) {a : Nat} (ha : a < n) (haq : a ∉ qs) (hq : ∀ m, m < n → m ≠ a → m ∈ qs) (d : CfD) (hd : d.ps = pasOf n) (hf : fitb d = true) :
    (D.reload d).R = (List.range n).map (fun m => if m = a then newR (last + 1) (paOf a).pk else rec m) := by
  have hst : Rl n a rec qs last D.Q [] (s0of { D with ev := d.probe }) := ⟨by show D.R = _; rw [h.R, List.filter_eq_self.2 (fun i _ => by simp)], rfl, by show D.last = _; rw [h.lst]; simp, by show D.Q.length ≤ _; simp, fun x hx => by show x.1 ≤ D.last; rw [h.lst]; exact h.Qk x hx⟩
  have hr := rl_all hn h.pa h.nod h.lt (List.range n) [] _ (by simpa using List.nodup_range) (fun m hm => List.mem_range.1 hm) (fun m hm hq2 => by
    by_cases e : m = a
    · exact e
    · exact absurd (hq m (List.mem_range.1 hm) e) hq2) hst
  rw [List.nil_append] at hr
  have e : D.reload d = HD.take { D with ev := d.probe } d := by unfold HD.reload; rw [hf]; rfl
  rw [e]
  unfold HD.take
  rw [hd]
  show (tsOf { D with ev := d.probe } ((pasOf n).map PaD.pk)).out = _
  refine hr.out.trans ?_
  apply List.map_congr_left
  intro m hm
  by_cases e1 : m = a
  · subst e1; rw [if_neg haq, if_pos rfl]
  · rw [if_pos (hq m (List.mem_range.1 hm) e1), if_neg e1]
end
/-- the table that New makes -/
theorem Kd.start (n : Nat) (hn : n ≤ 16) (f k e : Int) (A : Option Addr) (c : Nat) : ∃ rec, Kd n (HD.new (cfOf n f k e A c)) rec (List.range n) (n : Int) ∧ ∀ i, i < n → (rec i).key = (i : Int) + 1 := by
  have key : ∀ (m : Nat) (s : TS), s.left = [] → (∀ x ∈ s.Q, x.1 ≤ s.last) → ∀ j : Nat, let t := (((List.range' j m).map paOf).map PaD.pk).foldl tstep s
      t.left = [] ∧ t.out = s.out ++ (List.range m).map (fun (i : Nat) => newR (s.last + 1 + (i : Int)) (paOf (j + i)).pk) ∧ t.last = s.last + (m : Int) ∧ t.Q.length = s.Q.length + m ∧ ∀ x ∈ t.Q, x.1 ≤ t.last := by
    intro m
    induction m with
    | zero => intro s hs hq j; exact ⟨hs, by simp, by simp, rfl, hq⟩
    | succ m ih =>
      intro s hs hq j
      have hp : pfind s.left (paOf j).pk < 0 := by rw [hs]; show (-1 : Int) < 0; decide
      have hstep := tstep_new hp
      have hq2 : ∀ x ∈ (⟨s.left, s.out ++ [newR (s.last + 1) (paOf j).pk], s.last + 1, pb.ins (s.last + 1) s.Q⟩ : TS).Q, x.1 ≤ s.last + 1 := fun x hx => by
        rcases ins_mem hx with h2 | h2
        · rw [h2]; exact Int.le_refl _
        · have := hq x h2; omega
      obtain ⟨h1, h2, h3, h4, h5⟩ := ih ⟨s.left, s.out ++ [newR (s.last + 1) (paOf j).pk], s.last + 1, pb.ins (s.last + 1) s.Q⟩ hs hq2 (j + 1)
      have e : (((List.range' j (m + 1)).map paOf).map PaD.pk).foldl tstep s = (((List.range' (j + 1) m).map paOf).map PaD.pk).foldl tstep ⟨s.left, s.out ++ [newR (s.last + 1) (paOf j).pk], s.last + 1, pb.ins (s.last + 1) s.Q⟩ := by
        rw [List.range'_succ, List.map_cons, List.map_cons, List.foldl_cons, hstep]
      simp only [e]
      refine ⟨h1, ?_, by rw [h3]; show s.last + 1 + (m : Int) = _; omega, by rw [h4]; show (pb.ins (s.last + 1) s.Q).length + m = _; rw [pb.ins_len]; omega, h5⟩
      rw [h2]
      show s.out ++ [newR (s.last + 1) (paOf j).pk] ++ _ = _
      rw [List.range_succ_eq_map, List.map_cons, List.map_map, List.append_assoc]
      congr 1
      show _ :: _ = _ :: _
      congr 1
      · simp
      · apply List.map_congr_left
        intro i _
        simp only [Function.comp]
        rw [show s.last + 1 + 1 + (i : Int) = s.last + 1 + ((i + 1 : Nat) : Int) by omega, show j + 1 + i = j + (i + 1) by omega]
  obtain ⟨h1, h2, h3, h4, h5⟩ := key n (s0of ⟨0, 0, 0, [], 0, e, []⟩) rfl (fun x hx => by simp [s0of] at hx) 0
  have hps : (pasOf n).map PaD.pk = ((List.range' 0 n).map paOf).map PaD.pk := by rw [pasOf, List.range_eq_range']
  rw [← hps] at h1 h2 h3 h4 h5
  obtain ⟨q1, q2⟩ := dropsOf_ok (tsOf ⟨0, 0, 0, [], 0, e, []⟩ ((pasOf n).map PaD.pk)).left (tsOf ⟨0, 0, 0, [], 0, e, []⟩ ((pasOf n).map PaD.pk)).Q
  have h4' : (tsOf ⟨0, 0, 0, [], 0, e, []⟩ ((pasOf n).map PaD.pk)).Q.length = 0 + n := h4
  have h3' : (tsOf ⟨0, 0, 0, [], 0, e, []⟩ ((pasOf n).map PaD.pk)).last = 0 + (n : Int) := h3
  refine ⟨fun i => newR ((i : Int) + 1) (paOf i).pk, ⟨?_, List.nodup_range, fun i hi => List.mem_range.1 hi, fun i hi => ⟨by show (1 : Int) ≤ (i : Int) + 1; omega, by show (i : Int) + 1 ≤ (n : Int); omega⟩, fun i j hi hj e => by
    have : (i : Int) + 1 = (j : Int) + 1 := e
    omega, fun i hi => rfl, fun i hi => by show (0 : Nat) < 65536; omega, by show (tsOf _ ((pasOf n).map PaD.pk)).last = _; rw [show (cfOf n f k e A c).probe = e from rfl, h3']; omega, ?_, fun x hx => ?_⟩, fun i hi => rfl⟩
  · show (tsOf _ ((pasOf n).map PaD.pk)).out = _
    refine h2.trans ?_
    show [] ++ _ = _
    rw [List.nil_append]
    apply List.map_congr_left
    intro i _
    show newR ((0 : Int) + 1 + (i : Int)) (paOf (0 + i)).pk = _
    rw [Nat.zero_add, show (0 : Int) + 1 + (i : Int) = (i : Int) + 1 by omega]
  · show (dropsOf _ _).length ≤ n
    have q1' : (dropsOf (tsOf ⟨0, 0, 0, [], 0, (cfOf n f k e A c).probe, []⟩ ((pasOf n).map PaD.pk)).left (tsOf ⟨0, 0, 0, [], 0, (cfOf n f k e A c).probe, []⟩ ((pasOf n).map PaD.pk)).Q).length ≤ (tsOf ⟨0, 0, 0, [], 0, e, []⟩ ((pasOf n).map PaD.pk)).Q.length := q1
    exact Nat.le_trans q1' (by omega)
  · have := h5 x (q2 x hx)
    have h6 : x.1 ≤ (tsOf ⟨0, 0, 0, [], 0, e, []⟩ ((pasOf n).map PaD.pk)).last := this
    rw [h3'] at h6
    omega
/-- without one of them -/
def lessOf (n a : Nat) : List Nat := (List.range n).eraseIdx a
def turnOf (n f : Nat) : List Nat := (List.range n).map fun i => (f + i) % n
theorem turn_get {n f i : Nat} (hi : i < n) : (turnOf n f)[i]? = some ((f + i) % n) := by simp [turnOf, List.getElem?_range hi]
theorem turn_nodup {n f : Nat} : (turnOf n f).Nodup := by
  unfold turnOf
  refine List.pairwise_map.2 (List.Pairwise.imp_of_mem (fun {i j} hi hj hne e => hne ?_) (List.nodup_range (n := n)))
  rw [List.mem_range] at hi hj
  have h1 := Nat.mod_add_div (f + i) n
  have h2 := Nat.mod_add_div (f + j) n
  have hn : 0 < n := by omega
  rcases Nat.lt_trichotomy ((f + i) / n) ((f + j) / n) with h | h | h
  · have : n * ((f + i) / n) + n ≤ n * ((f + j) / n) := by rw [← Nat.mul_succ]; exact Nat.mul_le_mul_left n h
    omega
  · rw [h] at h1; omega
  · have : n * ((f + j) / n) + n ≤ n * ((f + i) / n) := by rw [← Nat.mul_succ]; exact Nat.mul_le_mul_left n h
    omega
theorem turn_lt {n f : Nat} (hn : 0 < n) : ∀ m ∈ turnOf n f, m < n := by
  intro m hm
  unfold turnOf at hm
  obtain ⟨i, _, rfl⟩ := List.mem_map.1 hm
  exact Nat.mod_lt _ hn
theorem turn_at {n f i : Nat} (hi : i < n) (hf : f < n) : (turnOf n f)[(i + n - f) % n]? = some i := by
  have hk := Nat.mod_lt (i + n - f) (show 0 < n by omega)
  rw [turn_get hk]
  congr 1
  by_cases h : f ≤ i
  · rw [show i + n - f = (i - f) + n by omega, Nat.add_mod_right, Nat.mod_eq_of_lt (show i - f < n by omega), show f + (i - f) = i by omega, Nat.mod_eq_of_lt hi]
  · rw [Nat.mod_eq_of_lt (show i + n - f < n by omega), show f + (i + n - f) = i + n by omega, Nat.add_mod_right, Nat.mod_eq_of_lt hi]
theorem less_mem {n a m : Nat} (ha : a < n) : m ∈ lessOf n a ↔ m < n ∧ m ≠ a := by
  unfold lessOf
  have he : (List.range n).eraseIdx a = (List.range n).erase a := (List.erase_eq_eraseIdx_of_idxOf (by
    have hil : (List.range n).idxOf a < (List.range n).length := List.idxOf_lt_length_iff.2 (List.mem_range.2 ha)
    have h1 : (List.range n)[(List.range n).idxOf a]? = some a := by rw [List.getElem?_eq_getElem hil, List.getElem_idxOf]
    rw [List.getElem?_range (by simpa using hil)] at h1
    exact Option.some.inj h1)).symm
  rw [he, List.nodup_range.mem_erase_iff, List.mem_range]
  exact and_comm
theorem less_nodup {n a : Nat} : (lessOf n a).Nodup := List.nodup_range.sublist (List.eraseIdx_sublist _ _)

/-- a table of the law's own, apart from the blocks of P -/
structure KW (w0 : World) (P : Nat → Prop) (r q : Nat) (D : HD) (w : World) : Prop where
  ex : ∃ (S : Nat → Prop) (A : Option Addr) (c : Nat) (bs : List Nat), Hx w S r D A c q bs ∧ ∀ g, S g → w0.heap.size ≤ g ∧ g < w.heap.size ∧ ¬ P g
  lt : ∀ g, P g → g < w.heap.size
  keep : Below w0.heap.size w0 w
/-- what a call leaves: the blocks of P stay -/
structure KP (w0 : World) (P : Nat → Prop) (r q : Nat) (D : HD) (w w' : World) : Prop where
  kw : KW w0 P r q D w'
  same : ∀ g, P g → w'.heap[g]? = w.heap[g]?
section
variable {w0 w w' : World} {P : Nat → Prop} {r q : Nat} {D D' : HD}
theorem kp_mk {S S' : Nat → Prop} {A' : Option Addr} {c' : Nat} {bs' : List Nat} (hlt : ∀ g, P g → g < w.heap.size) (hk0 : Below w0.heap.size w0 w) (hS : ∀ g, S g → w0.heap.size ≤ g ∧ g < w.heap.size ∧ ¬ P g)
    (hx : Hx w' S' r D' A' c' q bs') (hS' : ∀ g, S' g → S g ∨ w.heap.size ≤ g) (hk : Keep w.heap.size S w w') : KP w0 P r q D' w w' := by
  have hsz := hk.size
  have hsz0 := hk0.size
  refine ⟨⟨⟨_, A', c', bs', hx.bounded, fun g hg => ?_⟩, fun g hg => by have := hlt g hg; omega, ?_⟩, fun g hg => hk.block g (hlt g hg) (fun hs => (hS g hs).2.2 hg)⟩
  · rcases hS' g hg.1 with h1 | h1
    · exact ⟨(hS g h1).1, hg.2, (hS g h1).2.2⟩
    · exact ⟨by omega, hg.2, fun hp => by have := hlt g hp; omega⟩
  · exact ((Keep.of_below hk0 S).trans (hk.mono hk0.size (fun _ _ e => e))).below (Nat.le_refl _) (fun g hg hs => by have := (hS g hs).1; omega)
theorem KW.below (h : KW w0 P r q D w) (hb : Below w.heap.size w w') : KP w0 P r q D w w' := by
  obtain ⟨S, A, c, bs, hx, hS⟩ := h.ex
  exact kp_mk h.lt h.keep hS (hx.below hb) (fun g hg => .inl hg) (Keep.of_below hb S)
theorem KW.wr {v : Value} {e : Ending} {S : Nat → Prop} {A : Option Addr} {c : Nat} {bs : List Nat} (h : KW w0 P r q D w) (hS : ∀ g, S g → w0.heap.size ≤ g ∧ g < w.heap.size ∧ ¬ P g) (hw : Wr S r D' A c q bs v w e w') : KP w0 P r q D' w w' :=
  kp_mk h.lt h.keep hS hw.hx (fun g hg => .inl hg) hw.keep
/-- blocks of P are turned, more of them are laid -/
theorem KW.more {P' : Nat → Prop} (h : KW w0 P r q D w) (hk : Keep w.heap.size P w w') (hP : ∀ g, P' g → (P g ∨ w.heap.size ≤ g) ∧ g < w'.heap.size) (hkeep : Below w0.heap.size w0 w') : KW w0 P' r q D w' := by
  obtain ⟨S, A, c, bs, hx, hS⟩ := h.ex
  refine ⟨⟨S, A, c, bs, hx.keep hk (fun g _ hs hp => (hS g hs).2.2 hp), fun g hg => ?_⟩, fun g hg => (hP g hg).2, hkeep⟩
  obtain ⟨h1, h2, h3⟩ := hS g hg
  refine ⟨h1, by have := hk.size; omega, fun hp => ?_⟩
  rcases (hP g hp).1 with h4 | h4
  · exact h3 h4
  · omega
theorem kw_good (h : KW w0 P r q D w) (hs : D.R.length ≤ 1000) (hw : ∀ x ∈ D.R, x.wi < 65536) (key : Int) (t : Bool) : Calls Try.prog 16 #[bp r, .int .i64 key, .bool t] w fun e w' => e = .returned (.int .i64 (D.ec key)) ∧ KP w0 P r q (D.hit key (fun x => goodR x D.now t)) w w' := by
  obtain ⟨S, A, c, bs, hx, hS⟩ := h.ex
  exact (hgood_any hx hs hw key t).mono fun e w' hh => ⟨hh.eq, h.wr hS hh⟩
theorem kw_bad (h : KW w0 P r q D w) (hs : D.R.length ≤ 1000) (hw : ∀ x ∈ D.R, x.wi < 65536) (key : Int) (t : Bool) : Calls Try.prog 17 #[bp r, .int .i64 key, .bool t] w fun e w' => e = .returned (.int .i64 (D.ec key)) ∧ KP w0 P r q (D.hit key (fun x => badR x D.now D.cool D.fails t)) w w' := by
  obtain ⟨S, A, c, bs, hx, hS⟩ := h.ex
  exact (hbad_any hx hs hw key t).mono fun e w' hh => ⟨hh.eq, h.wr hS hh⟩
theorem kw_tells (h : KW w0 P r q D w) (hs : D.R.length ≤ 1000) (i : Int) : Calls Try.prog 9 #[bp r, .int .i64 i] w fun e w' => e = .returned (D.tells i) ∧ KP w0 P r q D w w' := by
  obtain ⟨S, A, c, bs, hx, hS⟩ := h.ex
  exact (tells_any hx hs i).mono fun e w' ⟨he, hb⟩ => ⟨he, h.below hb⟩
theorem kw_key (h : KW w0 P r q D w) (hs : D.R.length ≤ 1000) (i : Int) : Calls Try.prog 13 #[bp r, .int .i64 i] w fun e w' => e = .returned (.int .i64 (D.keyAt i)) ∧ w' = w := by
  obtain ⟨S, A, c, bs, hx, hS⟩ := h.ex
  exact (hkey_any hx hs i).mono fun e w' ⟨he, hb⟩ => ⟨he, hb.symm⟩
theorem kw_place (h : KW w0 P r q D w) (hs : D.R.length ≤ 1000) (key : Int) : Calls Try.prog 14 #[bp r, .int .i64 key] w fun e w' => e = .returned (.int .i64 (D.place key)) ∧ KP w0 P r q D w w' := by
  obtain ⟨S, A, c, bs, hx, hS⟩ := h.ex
  exact (place_any hx hs key).mono fun e w' ⟨he, hb⟩ => ⟨he, h.below hb⟩
theorem kw_reload (h : KW w0 P r q D w) (d : CfD) (hp : PasAt w P d.A d.ps) (hR : D.R.length ≤ 16) (hQ : D.Q.length ≤ 16) (l0 : 0 ≤ D.last) (l1 : D.last + 16 < 1099511627775) (hqk : ∀ x ∈ D.Q, x.1 ≤ D.last) :
    Calls Try.prog 10 #[bp r, d.v] w fun e w' => e = .returned (.int .i64 (rcode d)) ∧ KP w0 P r q (D.reload d) w w' := by
  obtain ⟨S, A, c, bs, hx, hS⟩ := h.ex
  refine (reload_any hx (fun g hg => (hS g hg).2.1) d (hp.weak fun g hg => ⟨h.lt g hg, fun hs => (hS g hs).2.2 hg⟩) hR hQ l0 l1 hqk).mono ?_
  rintro e w' ⟨he, ⟨A', c', bs', hx'⟩, hk⟩
  exact ⟨he, kp_mk h.lt h.keep hS hx' (fun g hg => hg) hk⟩
end

/-! ### the table of the law's own parents -/
structure KS (w0 : World) (P : Nat → Prop) (r q n : Nat) (rec : Nat → RD) (qs : List Nat) (last : Int) (w : World) : Prop where
  ex : ∃ D, Kd n D rec qs last ∧ KW w0 P r q D w
structure KSP (w0 : World) (P : Nat → Prop) (r q n : Nat) (rec : Nat → RD) (qs : List Nat) (last : Int) (w w' : World) : Prop where
  ks : KS w0 P r q n rec qs last w'
  same : ∀ g, P g → w'.heap[g]? = w.heap[g]?
section
variable {w0 w w' : World} {P : Nat → Prop} {r q n : Nat} {rec : Nat → RD} {qs : List Nat} {last : Int}
theorem KS.lt (h : KS w0 P r q n rec qs last w) : ∀ g, P g → g < w.heap.size := by obtain ⟨D, _, h2⟩ := h.ex; exact h2.lt
theorem KS.keep (h : KS w0 P r q n rec qs last w) : Below w0.heap.size w0 w := by obtain ⟨D, _, h2⟩ := h.ex; exact h2.keep
theorem KS.below (h : KS w0 P r q n rec qs last w) (hb : Below w.heap.size w w') : KSP w0 P r q n rec qs last w w' := by
  obtain ⟨D, h1, h2⟩ := h.ex
  exact ⟨⟨D, h1, (h2.below hb).kw⟩, (h2.below hb).same⟩
theorem KS.more {P' : Nat → Prop} (h : KS w0 P r q n rec qs last w) (hk : Keep w.heap.size P w w') (hP : ∀ g, P' g → (P g ∨ w.heap.size ≤ g) ∧ g < w'.heap.size) (hkeep : Below w0.heap.size w0 w') : KS w0 P' r q n rec qs last w' := by
  obtain ⟨D, h1, h2⟩ := h.ex
  exact ⟨D, h1, h2.more hk hP hkeep⟩
theorem Kd.wis {D : HD} (h : Kd n D rec qs last) : ∀ x ∈ D.R, x.wi < 65536 := by
  rw [h.R]
  intro x hx
  obtain ⟨i, hi, rfl⟩ := List.mem_map.1 hx
  exact h.wi i (h.lt i hi)
/-- keys as they came -/
def Keys (n : Nat) (rec : Nat → RD) : Prop := ∀ i, i < n → (rec i).key = (i : Int) + 1
theorem ks_good (h : KS w0 P r q n rec qs last w) (hn : n ≤ 16) (hK : Keys n rec) (key : Int) : Calls Try.prog 16 #[bp r, .int .i64 key, .bool false] w fun e w' => (∃ v, e = .returned (.int .i64 v)) ∧ ∃ rec', Keys n rec' ∧ KSP w0 P r q n rec' qs last w w' := by
  obtain ⟨D, h1, h2⟩ := h.ex
  refine (kw_good h2 (by have := h1.len_le; omega) h1.wis key false).mono ?_
  rintro e w' ⟨he, hp⟩
  obtain ⟨rec', k1, k2⟩ := h1.hit key (fun x => goodR x D.now false) (fun x => goodR_key x _ _) (fun x => by unfold goodR; split; split <;> rfl; rfl) (fun x hx => goodR_wi _ _ hx)
  exact ⟨⟨_, he⟩, rec', fun i hi => (k2 i hi).trans (hK i hi), ⟨_, k1, hp.kw⟩, hp.same⟩
theorem ks_bad (h : KS w0 P r q n rec qs last w) (hn : n ≤ 16) (hK : Keys n rec) (key : Int) : Calls Try.prog 17 #[bp r, .int .i64 key, .bool false] w fun e w' => (∃ v, e = .returned (.int .i64 v)) ∧ ∃ rec', Keys n rec' ∧ KSP w0 P r q n rec' qs last w w' := by
  obtain ⟨D, h1, h2⟩ := h.ex
  refine (kw_bad h2 (by have := h1.len_le; omega) h1.wis key false).mono ?_
  rintro e w' ⟨he, hp⟩
  obtain ⟨rec', k1, k2⟩ := h1.hit key (fun x => badR x D.now D.cool D.fails false) (fun x => badR_key x _ _ _ _) (fun x => by unfold badR; split <;> rfl) (fun x hx => badR_wi _ _ _ _ hx)
  exact ⟨⟨_, he⟩, rec', fun i hi => (k2 i hi).trans (hK i hi), ⟨_, k1, hp.kw⟩, hp.same⟩
theorem ks_tells (h : KS w0 P r q n rec qs last w) (hn : n ≤ 16) {k i : Nat} (hk : qs[k]? = some i) : Calls Try.prog 9 #[bp r, .int .i64 (k : Int)] w fun e w' => e = .returned (.tuple #[.int .u16 ((rec i).wi : Int), .agg #[.bool (rec i).br.op, .int .i64 (rec i).br.si, .int .i64 (rec i).br.sp, .bool (rec i).br.tr]]) ∧ KSP w0 P r q n rec qs last w w' := by
  obtain ⟨D, h1, h2⟩ := h.ex
  refine (kw_tells h2 (by have := h1.len_le; omega) (k : Int)).mono ?_
  rintro e w' ⟨he, hp⟩
  refine ⟨?_, ⟨D, h1, hp.kw⟩, hp.same⟩
  rw [he]
  unfold HD.tells
  rw [h1.rec_at hk]
theorem ks_key (h : KS w0 P r q n rec qs last w) (hn : n ≤ 16) (hK : Keys n rec) {k i : Nat} (hk : qs[k]? = some i) : Calls Try.prog 13 #[bp r, .int .i64 (k : Int)] w fun e w' => e = .returned (.int .i64 ((i : Int) + 1)) ∧ w' = w := by
  obtain ⟨D, h1, h2⟩ := h.ex
  refine (kw_key h2 (by have := h1.len_le; omega) (k : Int)).mono ?_
  rintro e w' ⟨he, hp⟩
  refine ⟨?_, hp⟩
  rw [he]
  unfold HD.keyAt
  rw [h1.rec_at hk]
  simp only
  rw [hK i (h1.lt i (List.mem_of_getElem? hk))]
theorem ks_place (h : KS w0 P r q n rec qs last w) (hn : n ≤ 16) (hK : Keys n rec) {k i : Nat} (hk : qs[k]? = some i) : Calls Try.prog 14 #[bp r, .int .i64 ((i : Int) + 1)] w fun e w' => e = .returned (.int .i64 (k : Int)) ∧ KSP w0 P r q n rec qs last w w' := by
  obtain ⟨D, h1, h2⟩ := h.ex
  refine (kw_place h2 (by have := h1.len_le; omega) ((i : Int) + 1)).mono ?_
  rintro e w' ⟨he, hp⟩
  refine ⟨?_, ⟨D, h1, hp.kw⟩, hp.same⟩
  rw [he, ← hK i (h1.lt i (List.mem_of_getElem? hk)), h1.place_at hk]
theorem ks_place_no (h : KS w0 P r q n rec qs last w) (hn : n ≤ 16) (hK : Keys n rec) {i : Nat} (hi : i < n) (hm : i ∉ qs) : Calls Try.prog 14 #[bp r, .int .i64 ((i : Int) + 1)] w fun e w' => e = .returned (.int .i64 (-1)) ∧ KSP w0 P r q n rec qs last w w' := by
  obtain ⟨D, h1, h2⟩ := h.ex
  refine (kw_place h2 (by have := h1.len_le; omega) ((i : Int) + 1)).mono ?_
  rintro e w' ⟨he, hp⟩
  refine ⟨?_, ⟨D, h1, hp.kw⟩, hp.same⟩
  rw [he, ← hK i hi, h1.place_no hi hm]

/-- a configuration of the law's own, of these parents -/
def kcf (A : Option Addr) (ms : List Nat) (c : Nat) : CfD := ⟨.string ⟨#[]⟩, 0, 0, 0, 0, 0, 0, 0, 0, 2, 5, 3, .slice none 0 0, A, ms.map paOf, c, .slice none 0 0, .slice none 0 0⟩
theorem kcf_v (A : Option Addr) (ms : List Nat) (c m : Nat) (hm : ms.length = m) : (kcf A ms c).v = .agg (ccs 2 5 3 (.slice A m c)) := by
  subst hm
  show Value.agg #[_, _, _, _, _, _, _, _, _, _, _, _, _, .slice A (ms.map paOf).length c, _, _] = _
  rw [List.length_map]
  rfl
theorem kcf_fit (A : Option Addr) (ms : List Nat) (c : Nat) (hm : ms.length ≤ 16) : fitb (kcf A ms c) = true := by
  rw [fitb_t]
  refine ⟨by show (ms.map paOf).length ≤ 16; rw [List.length_map]; exact hm, ?_⟩
  show (1 : Int) ≤ 2 ∧ (2 : Int) ≤ 8 ∧ (1 : Int) ≤ 5 ∧ (5 : Int) ≤ 1000 ∧ (1 : Int) ≤ 3 ∧ (3 : Int) ≤ 1000
  omega
theorem ks_reload (h : KS w0 P r q n rec qs last w) (hn : n ≤ 16) (hl0 : 0 ≤ last) (hl1 : last ≤ 16) {A : Option Addr} {c m : Nat} {ms : List Nat} (hnd : ms.Nodup) (hin : ∀ i ∈ ms, i ∈ qs) (hm : ms.length = m) (hp : PasAt w P A (ms.map paOf)) :
    Calls Try.prog 10 #[bp r, .agg (ccs 2 5 3 (.slice A m c))] w fun e w' => e = .returned (.int .i64 0) ∧ KSP w0 P r q n rec ms last w w' := by
  obtain ⟨D, h1, h2⟩ := h.ex
  have hml : ms.length ≤ 16 := Nat.le_trans (nodup_len hnd fun i hi => h1.lt i (hin i hi)) hn
  have hf := kcf_fit A ms c hml
  have hr := kw_reload h2 (kcf A ms c) hp (by have := h1.len_le; omega) (by have := h1.Qn; omega) (by rw [h1.lst]; exact hl0) (by rw [h1.lst]; omega) (by rw [h1.lst]; exact h1.Qk)
  rw [kcf_v A ms c m hm] at hr
  refine hr.mono ?_
  rintro e w' ⟨he, hk⟩
  refine ⟨?_, ⟨_, h1.known hn hnd hin (kcf A ms c) rfl hf, hk.kw⟩, hk.same⟩
  rw [he]
  unfold rcode
  rw [hf]
  rfl
/-- the last one: the parent that was away is new -/
structure KZ (w0 : World) (P : Nat → Prop) (r q n a : Nat) (rec : Nat → RD) (last : Int) (w : World) : Prop where
  ex : ∃ D, D.R = (List.range n).map (fun m => if m = a then newR (last + 1) (paOf a).pk else rec m) ∧ KW w0 P r q D w
theorem ks_again (h : KS w0 P r q n rec qs last w) (hn : n ≤ 16) (hl0 : 0 ≤ last) (hl1 : last ≤ 16) {A : Option Addr} {c a : Nat} (ha : a < n) (haq : a ∉ qs) (hq : ∀ m, m < n → m ≠ a → m ∈ qs) (hp : PasAt w P A (pasOf n)) :
    Calls Try.prog 10 #[bp r, .agg (ccs 2 5 3 (.slice A n c))] w fun e w' => e = .returned (.int .i64 0) ∧ KZ w0 P r q n a rec last w' := by
  obtain ⟨D, h1, h2⟩ := h.ex
  have hf := kcf_fit A (List.range n) c (by rw [List.length_range]; exact hn)
  have hr := kw_reload h2 (kcf A (List.range n) c) hp (by have := h1.len_le; omega) (by have := h1.Qn; omega) (by rw [h1.lst]; exact hl0) (by rw [h1.lst]; omega) (by rw [h1.lst]; exact h1.Qk)
  rw [kcf_v A (List.range n) c n List.length_range] at hr
  refine hr.mono ?_
  rintro e w' ⟨he, hk⟩
  refine ⟨?_, ⟨_, h1.again hn ha haq hq (kcf A (List.range n) c) rfl hf, hk.kw⟩⟩
  rw [he]
  unfold rcode
  rw [hf]
  rfl
theorem kz_rec {D : HD} {a k : Nat} (h : D.R = (List.range n).map (fun m => if m = a then newR (last + 1) (paOf a).pk else rec m)) (hk : k < n) : D.rec? (k : Int) = some (if k = a then newR (last + 1) (paOf a).pk else rec k) := by
  unfold HD.rec?
  rw [if_pos (by omega), Int.toNat_natCast, h, List.getElem?_map, List.getElem?_range hk]
  rfl
theorem kz_tells {a : Nat} (h : KZ w0 P r q n a rec last w) (hn : n ≤ 16) (ha : a < n) : Calls Try.prog 9 #[bp r, .int .i64 (a : Int)] w fun e w' => e = .returned (.tuple #[.int .u16 0, .agg #[.bool false, .int .i64 0, .int .i64 0, .bool false]]) ∧ KZ w0 P r q n a rec last w' := by
  obtain ⟨D, h1, h2⟩ := h.ex
  have hl : D.R.length = n := by rw [h1]; simp
  refine (kw_tells h2 (by omega) (a : Int)).mono ?_
  rintro e w' ⟨he, hp⟩
  refine ⟨?_, D, h1, hp.kw⟩
  rw [he]
  unfold HD.tells
  rw [kz_rec h1 ha, if_pos rfl]
  rfl
theorem kz_key {a : Nat} (h : KZ w0 P r q n a rec last w) (hn : n ≤ 16) (hK : Keys n rec) {k : Nat} (hk : k < n) : Calls Try.prog 13 #[bp r, .int .i64 (k : Int)] w fun e w' => e = .returned (.int .i64 (if k = a then last + 1 else (k : Int) + 1)) ∧ w' = w := by
  obtain ⟨D, h1, h2⟩ := h.ex
  have hl : D.R.length = n := by rw [h1]; simp
  refine (kw_key h2 (by omega) (k : Int)).mono ?_
  rintro e w' ⟨he, hp⟩
  refine ⟨?_, hp⟩
  rw [he]
  unfold HD.keyAt
  rw [kz_rec h1 hk]
  by_cases e1 : k = a
  · rw [if_pos e1, if_pos e1]; rfl
  · rw [if_neg e1, if_neg e1]; simp only; rw [hK k hk]
theorem KZ.below {a : Nat} (h : KZ w0 P r q n a rec last w) (hb : Below w.heap.size w w') : KZ w0 P r q n a rec last w' := by
  obtain ⟨D, h1, h2⟩ := h.ex
  exact ⟨D, h1, (h2.below hb).kw⟩
theorem KZ.keep {a : Nat} (h : KZ w0 P r q n a rec last w) : Below w0.heap.size w0 w := by obtain ⟨D, _, h2⟩ := h.ex; exact h2.keep
/-- the table that New makes -/
theorem ks_new (hn : n ≤ 16) (hP : ∀ g, P g → g < w.heap.size) (hk0 : Below w0.heap.size w0 w) {A : Option Addr} {c : Nat} (hp : PasAt w P A (pasOf n)) :
    Calls Try.prog 20 #[.agg (ccs 2 5 3 (.slice A n c))] w fun e w' => ∃ r q rec, e = .returned (.tuple #[bp r, .int .i64 0]) ∧ Keys n rec ∧ KSP w0 P r q n rec (List.range n) (n : Int) w w' := by
  have hv := kcf_v A (List.range n) c n List.length_range
  have hr := new_good (kcf A (List.range n) c) w (kcf_fit A _ c (by rw [List.length_range]; exact hn)) (hp.weak hP)
  rw [hv] at hr
  refine hr.mono ?_
  rintro e w' ⟨⟨r, A', c', q, bs', he, hx⟩, hb⟩
  obtain ⟨rec, k1, k2⟩ := Kd.start n hn 2 5 3 A c
  have hkp := kp_mk (S := fun _ => False) hP hk0 (fun g hg => hg.elim) hx (fun g hg => .inr hg) (Keep.of_below hb _)
  exact ⟨r, q, rec, he, k2, ⟨_, k1, hkp.kw⟩, hkp.same⟩
end

theorem flatP_app (a b : List PaD) : flatP (a ++ b) = flatP a ++ flatP b := by simp [flatP]
theorem flatP_len (l : List PaD) : (flatP l).length = l.length * 8 := by
  induction l with
  | nil => rfl
  | cons x l ih =>
    have e : flatP (x :: l) = pcells x ++ flatP l := rfl
    rw [e, List.length_append, ih, List.length_cons]
    show 8 + l.length * 8 = _
    omega
theorem flatP_inv : ∀ (l : List PaD) (j : Nat) (u : Value), (flatP l)[j]? = some u → ∃ x, l[j / 8]? = some x ∧ (pcells x)[j % 8]? = some u
  | [], j, u, h => by simp [flatP] at h
  | x :: l, j, u, h => by
    have e : flatP (x :: l) = pcells x ++ flatP l := rfl
    rw [e] at h
    by_cases hj : j < 8
    · rw [List.getElem?_append_left (by show j < 8; exact hj)] at h
      exact ⟨x, by rw [Nat.div_eq_of_lt hj]; rfl, by rw [Nat.mod_eq_of_lt hj]; exact h⟩
    · rw [List.getElem?_append_right (by show 8 ≤ j; omega)] at h
      have h' : (flatP l)[j - 8]? = some u := h
      obtain ⟨y, h1, h2⟩ := flatP_inv l (j - 8) u h'
      refine ⟨y, ?_, ?_⟩
      · rw [show j / 8 = (j - 8) / 8 + 1 by omega, List.getElem?_cons_succ]; exact h1
      · rw [show j % 8 = (j - 8) % 8 by omega]; exact h2
theorem pas_cells {W : World} {ok : Nat → Prop} {g off : Nat} {l : List PaD} (hp : PasAt W ok (some ⟨g, off, none⟩) l) {j : Nat} {u : Value} (h : (flatP l)[j]? = some u) : W.cell? ⟨g, off + j, none⟩ = some u := by
  obtain ⟨x, h1, h2⟩ := flatP_inv l j u h
  have hl : 0 < l.length := by have := (List.getElem?_eq_some_iff.1 h1).1; omega
  obtain ⟨g0, off0, e, _, hc⟩ := hp.ex hl
  cases e
  have hx := hc (j / 8) x h1
  have hj : off + j = off + j / 8 * 8 + j % 8 := by omega
  rw [hj]
  have hr : j % 8 < 8 := Nat.mod_lt _ (by omega)
  generalize j % 8 = m at h2 hr
  match m, hr, h2 with
  | 0, _, h2 => exact hx.c0.trans h2
  | 1, _, h2 => exact hx.c1.trans h2
  | 2, _, h2 => exact hx.c2.trans h2
  | 3, _, h2 => exact hx.c3.trans h2
  | 4, _, h2 => exact hx.c4.trans h2
  | 5, _, h2 => exact hx.c5.trans h2
  | 6, _, h2 => exact hx.c6.trans h2
  | 7, _, h2 => exact hx.c7.trans h2
theorem flat_take (l : List PaD) (k : Nat) {j : Nat} {u : Value} (h : (flatP (l.take k))[j]? = some u) : (flatP l)[j]? = some u := by
  have e : flatP l = flatP (l.take k) ++ flatP (l.drop k) := by rw [← flatP_app, List.take_append_drop]
  rw [e, List.getElem?_append_left (List.getElem?_eq_some_iff.1 h).1]
  exact h
theorem flat_drop (l : List PaD) (k : Nat) (hk : k ≤ l.length) {j : Nat} {u : Value} (h : (flatP (l.drop k))[j]? = some u) : (flatP l)[k * 8 + j]? = some u := by
  have e : flatP l = flatP (l.take k) ++ flatP (l.drop k) := by rw [← flatP_app, List.take_append_drop]
  have hl : (flatP (l.take k)).length = k * 8 := by rw [flatP_len, List.length_take]; omega
  rw [e, List.getElem?_append_right (by omega), hl, show k * 8 + j - k * 8 = j by omega]
  exact h
theorem pcells_one {x : PaD} : ∀ u ∈ pcells x, u.oneCell' = true := by
  intro u hu
  simp only [pcells, List.mem_cons, List.not_mem_nil, or_false] at hu
  rcases hu with rfl | rfl | rfl | rfl | rfl | rfl | rfl | rfl <;> rfl
theorem flatP_one (l : List PaD) : ∀ u ∈ flatP l, u.oneCell' = true := by
  intro u hu
  unfold flatP at hu
  obtain ⟨x, _, hx⟩ := List.mem_flatMap.1 hu
  exact pcells_one u hx
theorem own_form8 {w : World} {B n : Nat} {e : TypeId} {v : Value} {xs : List Value} (h : w.ownsRow B e 8 v n xs) : ∃ A c, v = .slice A n c := by
  rcases h.2 with ⟨rfl, rfl⟩ | ⟨g, cap, cur, hv, _⟩
  · exact ⟨none, 0, rfl⟩
  · exact ⟨_, _, hv⟩
/-- several parents more -/
theorem OwnP.app {w0 wr : World} {A : Option Addr} {c k : Nat} {l ys : List PaD} (h : wr.ownsRow w0.heap.size 71 8 (.slice A k c) k (flatP l)) (hw : w0.heap.size ≤ wr.heap.size) (ad : Addr) (m cc : Nat) (hm : ys.length = m) (hy : ∀ j u, (flatP ys)[j]? = some u → wr.cell? (ad.add j) = some u) (hn : k + m ≤ 1000) :
    ∃ A' c' W', (Builtin.append_ #[25, 25] 25 #[.slice A k c, .slice (some ad) m cc]).run Try.prog wr = .ok (.slice A' (k + m) c') W' ∧ W'.ownsRow w0.heap.size 71 8 (.slice A' (k + m) c') (k + m) (flatP (l ++ ys)) ∧ wr.grownBy W' (Value.slice A k c).ownBlock := by
  obtain ⟨i0, hinf, hz0, hz1, hz2⟩ := info_parts infoPar
  obtain ⟨v', w', hr, ho, hg, _, _⟩ := run_append_own_at (P := Try.prog) wr w0.heap.size 25 25 71 i0 _ 8 96 Try.underlying25 hinf hz0 hz1 hz2 rfl (by decide) _ k (flatP l) h ad m cc (flatP ys) (by rw [flatP_len, hm]) hy (flatP_one ys) (by unfold maxLen; omega) (by omega) hw
  obtain ⟨A', c', rfl⟩ := own_form8 ho
  rw [flatP_app]
  exact ⟨A', c', w', hr, ho, hg⟩
/-- where the rest of a row lies -/
def cutP (g off c k : Nat) : Addr := if c = k then ⟨g, off, none⟩ else ⟨g, off + k * 8, none⟩
theorem cut_lo (W : World) (g off n c k : Nat) (z : Int) (hz : z = (k : Int)) (hk : k ≤ n) : (Instr.slice 25 (.slice (some ⟨g, off, none⟩) n c) (some (.int .i64 z)) none none).run Try.prog W = .ok (.slice (some (cutP g off c k)) (n - k) (c - k)) W := by
  subst hz
  obtain ⟨i0, hi, hz0, hz1, hz2⟩ := info_parts infoPar
  rw [run_slice_l W 25 _ n c (by kernel_rfl) .i64 _ (by omega) (by omega)]
  have he : Try.prog.elem 25 = 71 := by kernel_rfl
  rw [he]
  have hs : (sizeOf 71).run Try.prog W = .ok 8 W := by simp [sizeOf, typeInfo, hi, hz1]
  rw [hs]
  simp only [Result.andThen, sliced, Int.toNat_natCast]
  unfold cutP
  by_cases h : c = k
  · simp [h]
  · simp [h, Addr.add_lit]
/-- all parents but one -/
theorem less_app {W : World} {g off c n a : Nat} (hp : PasAt W (fun k => k = g) (some ⟨g, off, none⟩) (pasOf n)) (hg : g < W.heap.size) (ha : a < n) (hn : n ≤ 16) (hc : n ≤ c) :
    ∃ A1 c1 W1 A2 c2 W2, (Builtin.append_ #[25, 25] 25 #[.slice (some ⟨W.heap.size, 0, none⟩) 0 0, .slice (some ⟨g, off, none⟩) a c]).run Try.prog (W.alloc (.cells #[] 71)) = .ok (.slice A1 a c1) W1 ∧
      (Builtin.append_ #[25, 25] 25 #[.slice A1 a c1, .slice (some (cutP g off c (a + 1))) (n - (a + 1)) (c - (a + 1))]).run Try.prog W1 = .ok (.slice A2 (a + (n - (a + 1))) c2) W2 ∧
      W2.ownsRow W.heap.size 71 8 (.slice A2 (a + (n - (a + 1))) c2) (a + (n - (a + 1))) (flatP ((lessOf n a).map paOf)) ∧ Below W.heap.size W W1 ∧ Below W.heap.size W W2 := by
  have hb0 : Below W.heap.size W (W.alloc (.cells #[] 71)) := (Below.refl _ W).alloc (Nat.le_refl _) _
  have ho0 : (W.alloc (.cells #[] 71)).ownsRow W.heap.size 71 8 (.slice (some ⟨W.heap.size, 0, none⟩) 0 0) 0 (flatP []) :=
    ⟨rfl, .inr ⟨W.heap.size, 0, #[], rfl, Nat.le_refl _, heap_alloc_new W _, Nat.le_refl _, by unfold maxLen; omega, rfl, rfl⟩⟩
  have hp0 : PasAt (W.alloc (.cells #[] 71)) (fun k => k = g) (some ⟨g, off, none⟩) (pasOf n) := hp.keep fun k hk => hb0.block k (by omega)
  obtain ⟨A1, c1, W1, hr1, ho1, hg1⟩ := OwnP.app (w0 := W) (ys := (pasOf n).take a) ho0 hb0.size ⟨g, off, none⟩ a c (by rw [List.length_take, pasOf_len]; omega) (fun j u hu => by
    rw [Addr.add_lit]
    exact pas_cells hp0 (flat_take _ _ hu)) (by omega)
  rw [Nat.zero_add] at hr1 ho1
  rw [List.nil_append] at ho1
  have hb1 : Below W.heap.size W W1 := ((Keep.of_below hb0 (fun _ => False)).grown hg1 hb0.size (fun k e0 => .inl (by
    have : W.heap.size = k := by simpa [Value.ownBlock] using e0
    omega))).below (Nat.le_refl _) (fun _ _ hf => hf)
  have hp1 : PasAt W1 (fun k => k = g) (some ⟨g, off, none⟩) (pasOf n) := hp.keep fun k hk => hb1.block k (by omega)
  obtain ⟨A2, c2, W2, hr2, ho2, hg2⟩ := OwnP.app (w0 := W) (ys := (pasOf n).drop (a + 1)) ho1 hb1.size (cutP g off c (a + 1)) (n - (a + 1)) (c - (a + 1)) (by rw [List.length_drop, pasOf_len]) (fun j u hu => by
    have hj := (List.getElem?_eq_some_iff.1 hu).1
    rw [flatP_len, List.length_drop, pasOf_len] at hj
    have hca : ¬ c = a + 1 := by omega
    unfold cutP
    rw [if_neg hca, Addr.add_lit, Nat.add_assoc]
    exact pas_cells hp1 (flat_drop _ _ (by rw [pasOf_len]; omega) hu)) (by omega)
  refine ⟨A1, c1, W1, A2, c2, W2, hr1, hr2, ?_, hb1, ?_⟩
  · have e : (lessOf n a).map paOf = (pasOf n).take a ++ (pasOf n).drop (a + 1) := by
      unfold lessOf
      rw [List.eraseIdx_eq_take_drop_succ, List.map_append, List.map_take, List.map_drop]
      rfl
    rw [e]
    exact ho2
  · exact ((Keep.of_below hb1 (fun _ => False)).grown hg2 hb1.size (fun k e0 => .inl (pl.own_cell ho1 e0).1)).below (Nat.le_refl _) (fun _ _ hf => hf)

/-! ### the three configurations -/
structure Cfs (P : Nat → Prop) (B Bt Bl : Nat) (A At Al : Option Addr) (c ct cl n f a ml : Nat) (W : World) : Prop where
  b : Lies W B 29 (ccs 2 5 3 (.slice A n c))
  t : Lies W Bt 29 (ccs 2 5 3 (.slice At n ct))
  l : Lies W Bl 29 (ccs 2 5 3 (.slice Al ml cl))
  pb : PasAt W P A (pasOf n)
  pt : PasAt W P At ((turnOf n f).map paOf)
  pl : PasAt W P Al ((lessOf n a).map paOf)
  hb : P B
  ht : P Bt
  hl : P Bl
  len : (lessOf n a).length = ml
theorem Cfs.keep {P : Nat → Prop} {B Bt Bl : Nat} {A At Al : Option Addr} {c ct cl n f a ml : Nat} {W W' : World} (h : Cfs P B Bt Bl A At Al c ct cl n f a ml W) (hs : ∀ g, P g → W'.heap[g]? = W.heap[g]?) : Cfs P B Bt Bl A At Al c ct cl n f a ml W' :=
  ⟨h.b.of_same (hs _ h.hb), h.t.of_same (hs _ h.ht), h.l.of_same (hs _ h.hl), h.pb.keep hs, h.pt.keep hs, h.pl.keep hs, h.hb, h.ht, h.hl, h.len⟩
end Go.Proofs.Ytpidjekabnnmcaa.hp
