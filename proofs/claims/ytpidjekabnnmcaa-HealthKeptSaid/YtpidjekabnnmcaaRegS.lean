/-
  Given for the seat's laws: a region that draws its order: bare moves, then what only reads or makes memory of its own, then bare ones, then others in their order behind all of these: one walk of the written order serves. No condition but those of the theorems.
-/
import Derived.Test.YtpidjekabnnmcaaQuietT
namespace Go.Proofs.Ytpidjekabnnmcaa.qt
open Go.RowKit
set_option linter.unusedVariables false

section
variable {P : Program} {ops : Array Oper} {md : Region.Mode} {C : World → Prop}
theorem wpAnyLS_first {n i : Nat} {oi : Oper} {v : Value} {L : Array Bool → Act → Prop} (hi : ops[i]? = some oi) (hsel : ∀ (j : Nat) (o : Oper) cs b, ops[j]? = some o → o.op ≠ .select cs b)
    {m : Nat} (htw : ∀ listed, HeadInv md ops n listed → ∀ i, m ≤ i → i < n → listed.getD i true = false → ∀ t, n ≤ t → t ∉ Region.ready md ops listed) (hmi : m ≤ i) (hin : i < n)
    (hdone : ∀ listed a, L listed a → ∀ j ∈ Region.ready md ops listed, n ≤ j) :
    ∀ (f : Nat) (listed : Array Bool) (a : Act), HeadInv md ops n listed →
      (∀ j oj, ops[j]? = some oj → j ≠ i → listed.getD j true = false → (∀ e ∈ oj.after, Region.binds md e = true → e.on ≠ i) → oi.apart ops oj = true) →
      i ∈ Region.ready md ops listed → YieldsIn P ops C oi v a →
      wpAnyLQ P md ops C n L f (listed.setIfInBounds i true) (a.put oi.dst v) → wpAnyLQ P md ops C n L (f + 1) listed a := by
  intro f
  induction f with
  | zero =>
    intro listed a inv _ hr hy H
    have hun := (mem_ready.1 hr).1
    refine ⟨fun h => (by rw [h] at hr; cases hr), fun j hj => ?_⟩
    have hjn : j < n := by
      rcases Nat.lt_or_ge j n with h | h
      · exact h
      · exact absurd hj (htw _ inv i hmi hin hun j h)
    refine ⟨hjn, ?_⟩
    by_cases hji : j = i
    · subst hji; exact hy.qOp hi H
    · have := hdone _ _ H j (ready_mono hj hji)
      omega
  | succ f ih =>
    intro listed a inv hfree hr hy H
    have hun := (mem_ready.1 hr).1
    refine ⟨fun h => (by rw [h] at hr; cases hr), fun j hj => ?_⟩
    have hjn : j < n := by
      rcases Nat.lt_or_ge j n with h | h
      · exact h
      · exact absurd hj (htw _ inv i hmi hin hun j h)
    refine ⟨hjn, ?_⟩
    by_cases hji : j = i
    · subst hji; exact hy.qOp hi H
    · have h1 := (H.2 j (ready_mono hj hji)).2
      obtain ⟨hjun, oj, hoj, hall⟩ := mem_ready.1 hj
      have hnot : ∀ e ∈ oj.after, Region.binds md e = true → e.on ≠ i := fun e he hb heq => by
        have h1 := hall e he hb
        rw [heq, getD_both hun] at h1
        cases h1
      have h2 := qOp_put hoj (hfree j oj hoj hji hjun hnot) (fun cs b => hsel i oi cs b hi) (fun cs b => hsel j oj cs b hoj) hy h1
      have hfree' : ∀ k ok, ops[k]? = some ok → k ≠ i → (listed.setIfInBounds j true).getD k true = false →
          (∀ e ∈ ok.after, Region.binds md e = true → e.on ≠ i) → oi.apart ops ok = true := fun k ok hk hki hun hno => by
        refine hfree k ok hk hki ?_ hno
        by_cases hjk : j = k
        · subst hjk; exact hjun
        · rw [getD_set_ne true hjk] at hun; exact hun
      refine qOp_mono (fun a' h3 => ih (listed.setIfInBounds j true) a' (inv.set hj hjn) hfree' (ready_mono hr (Ne.symm hji)) h3.1 ?_) h2
      rw [Array.setIfInBounds_comm _ _ hji]
      exact h3.2

/-- the operations from k on come up in their order; what is known of the list at its end -/
def runB (md : Region.Mode) (ops : Array Oper) (F : Array Bool → Bool) : Nat → Nat → Array Bool → Bool
  | 0, _, listed => F listed
  | f + 1, k, listed => (Region.ready md ops listed).contains k && Region.free md ops listed k && runB md ops F f (k + 1) (listed.setIfInBounds k true)

theorem wpAnyLS_lex {m n : Nat} {Lq : Act → Prop} {G : Array Bool → Bool} (hsel : Region.noSelect ops = true) (htw : ∀ listed, HeadInv md ops n listed → ∀ i, m ≤ i → i < n → listed.getD i true = false → ∀ t, n ≤ t → t ∉ Region.ready md ops listed)
    (hG : ∀ listed, G listed = true → ∀ j ∈ Region.ready md ops listed, n ≤ j) :
    ∀ (l : List Oper) (k : Nat) (listed : Array Bool) (a : Act), (∀ j, j < l.length → l[j]? = ops[k + j]?) → m ≤ k → k + l.length = n → HeadInv md ops n listed →
    runB md ops G l.length k listed = true → wpQuiet P ops C Lq l a →
    wpAnyLQ P md ops C n (fun listed' a' => G listed' = true ∧ Lq a') l.length listed a
  | [], k, listed, a, _, _, hk, _, hB, h => ⟨by simpa [runB] using hB, h⟩
  | o :: l, k, listed, a, hl, hmk, hk, inv, hB, h => by
    have h0 : ops[k]? = some o := by simpa using (hl 0 (by simp)).symm
    simp only [List.length_cons, runB, Bool.and_eq_true] at hB
    obtain ⟨⟨hr, hf⟩, hB'⟩ := hB
    have hkn : k < n := by simp only [List.length_cons] at hk; omega
    have hr' : k ∈ Region.ready md ops listed := by simpa using hr
    have hst : qOp P ops C k (wpQuiet P ops C Lq l) a := by unfold qOp; simp only [h0]; exact h
    obtain ⟨v, hy, hK⟩ := yieldsIn_of_qOp h0 hst
    exact wpAnyLS_first h0 (Region.noSelect_spec hsel) htw hmk hkn (fun listed' a' hL => hG listed' hL.1) l.length listed a inv (Region.free_spec h0 hf) hr' hy
      (wpAnyLS_lex hsel htw hG l (k + 1) _ _ (fun j hj => by have := hl (j + 1) (by simp; omega); simpa [Nat.add_assoc, Nat.add_comm 1 j] using this) (by omega) (by simp only [List.length_cons] at hk; omega) (inv.set hr' hkn) hB' hK)

/-- an operation that does not look at the world -/
def bare (o : Oper) : Bool :=
  match o.op with
  | .move _ => true
  | .assign _ => true
  | .extract _ _ => true
  | _ => false
theorem bare_yields {o : Oper} (hb : bare o = true) {v : Value} {a : Act} {w0 : World} (hw0 : C w0) (h : YieldsIn P ops C o v a) : Yields P ops o v a := by
  rcases h with ⟨h1, h2⟩ | h
  · refine .inl ⟨h1, fun w => ?_⟩
    have h3 := h2 w0 hw0
    unfold Oper.quietAt at h3
    unfold bare at hb
    cases ho : o.op <;> rw [ho] at hb <;> first | (cases hb; done) | skip
    case move x => simp only [execOp, ho] at h3 ⊢; simpa [Oper.quietUpon] using h3
    case assign x => simp only [execOp, ho] at h3 ⊢; simpa [Oper.quietUpon] using h3
    case extract x i =>
      simp only [execOp, ho] at h3 ⊢
      unfold Instr.extract at h3 ⊢
      split at h3
      · rename_i vs hv
        cases hvi : vs[i]? with
        | some u => simp [hvi, Oper.quietUpon] at h3 ⊢; exact h3
        | none => simp [hvi, Oper.quietUpon, Result.andThen, stuck] at h3
      · simp_all [Oper.quietUpon]
  · exact .inr h

/-- bare operations in their order, within the walk of all orders -/
theorem wpAny_bare {Q' : Exit → Act → World → Prop} {g n : Nat} {Lq : Act → Prop} {G : Array Bool → Bool} {w : World} (hw : C w) (hsel : Region.noSelect ops = true) (hQ : ∀ c a w d v, Q' (.panic c) (Act.put a d v) w → Q' (.panic c) a w)
    (hn : Nat → Prop) (hE : ∀ listed a, (hn 0 → HeadInv md ops n listed) → G listed = true → Lq a → wpAny P md ops Q' g listed a w) :
    ∀ (l : List Oper) (k : Nat) (listed : Array Bool) (a : Act), (∀ j, j < l.length → l[j]? = ops[k + j]?) → l.all bare = true → (hn 0 → k + l.length ≤ n ∧ HeadInv md ops n listed) →
    runB md ops G l.length k listed = true → wpQuiet P ops C Lq l a → wpAny P md ops Q' (l.length + g) listed a w
  | [], k, listed, a, _, _, hi, hB, h => by
    rw [List.length_nil, Nat.zero_add]
    exact hE listed a (fun x => (hi x).2) (by simpa [runB] using hB) h
  | o :: l, k, listed, a, hl, hc, hi, hB, h => by
    have h0 : ops[k]? = some o := by simpa using (hl 0 (by simp)).symm
    simp only [List.length_cons, runB, Bool.and_eq_true] at hB
    obtain ⟨⟨hr, hf⟩, hB'⟩ := hB
    simp only [List.all_cons, Bool.and_eq_true] at hc
    have hst : qOp P ops C k (wpQuiet P ops C Lq l) a := by unfold qOp; simp only [h0]; exact h
    obtain ⟨v, hy, hK⟩ := yieldsIn_of_qOp h0 hst
    have hr' : k ∈ Region.ready md ops listed := by simpa using hr
    rw [List.length_cons, show l.length + 1 + g = (l.length + g) + 1 by omega]
    refine wpAny_take h0 hsel hf hr (fun c a w => hQ c a w _ _) (bare_yields hc.1 hw hy) ?_
    exact wpAny_bare hw hsel hQ hn hE l (k + 1) _ _ (fun j hj => by have := hl (j + 1) (by simp; omega); simpa [Nat.add_assoc, Nat.add_comm 1 j] using this) hc.2
      (fun x => by obtain ⟨q1, q2⟩ := hi x; simp only [List.length_cons] at q1; exact ⟨by omega, q2.set hr' (by omega)⟩) hB' hK

/-- all heads lead to the last one, all others wait for it -/
def leadB (md : Region.Mode) (ops : Array Oper) (m n : Nat) : Bool :=
  ((List.range n).all fun i => decide (i < m) || decide (i + 1 = n) || (List.range n).any fun j => decide (i < j) && Region.waitsFor md ops j i) &&
  ((List.range ops.size).all fun t => decide (t < n) || Region.waitsFor md ops t (n - 1) || (List.range t).any fun u => decide (n ≤ u) && Region.waitsFor md ops t u)
theorem lead_waits {m n : Nat} (hmn : m < n) (hB : leadB md ops m n = true) : ∀ listed, HeadInv md ops n listed → ∀ i, m ≤ i → i < n → listed.getD i true = false → ∀ t, n ≤ t → t ∉ Region.ready md ops listed := by
  unfold leadB at hB
  simp only [Bool.and_eq_true] at hB
  obtain ⟨hB1, hB2⟩ := hB
  intro listed inv
  have last : ∀ (d i : Nat), n - i = d → m ≤ i → i < n → listed.getD i true = false → listed.getD (n - 1) false = false := by
    intro d
    induction d using Nat.strongRecOn with
    | _ d ih =>
      intro i hd hmi hin hun
      have h1 := List.all_eq_true.1 hB1 i (List.mem_range.2 hin)
      simp only [Bool.or_eq_true, decide_eq_true_eq] at h1
      rcases h1 with (h1 | h1) | h1
      · omega
      · rw [show n - 1 = i by omega]; exact getD_both hun
      · obtain ⟨j, hj, hj2⟩ := List.any_eq_true.1 h1
        simp only [Bool.and_eq_true, decide_eq_true_eq] at hj2
        have hjn := List.mem_range.1 hj
        obtain ⟨oj, hoj, e, he, hb, hon⟩ := Region.waitsFor_spec hj2.2
        cases hl : listed.getD j false with
        | true =>
          have h2 := inv.closed j oj hoj hl e he hb
          rw [hon, getD_both hun] at h2
          cases h2
        | false =>
          have hjs : j < listed.size := by rw [inv.size]; exact (Array.getElem?_eq_some_iff.1 hoj).1
          exact ih (n - j) (by omega) j rfl (by omega) hjn (getD_in hjs hl)
  intro i hmi hin hun t ht hr
  have hlast := last _ i rfl hmi hin hun
  obtain ⟨_, ot, hot, hall⟩ := mem_ready.1 hr
  have htlt := (Array.getElem?_eq_some_iff.1 hot).1
  have h1 := List.all_eq_true.1 hB2 t (List.mem_range.2 htlt)
  simp only [Bool.or_eq_true, decide_eq_true_eq] at h1
  rcases h1 with (h1 | h1) | h1
  · omega
  · obtain ⟨o', ho', e, he, hb, hon⟩ := Region.waitsFor_spec h1
    have : o' = ot := Option.some.inj (ho'.symm.trans hot)
    subst this
    have h2 := hall e he hb
    rw [hon, hlast] at h2
    cases h2
  · obtain ⟨u, hu, hu2⟩ := List.any_eq_true.1 h1
    simp only [Bool.and_eq_true, decide_eq_true_eq] at hu2
    obtain ⟨o', ho', e, he, hb, hon⟩ := Region.waitsFor_spec hu2.2
    have : o' = ot := Option.some.inj (ho'.symm.trans hot)
    subst this
    have h2 := hall e he hb
    have hul := List.mem_range.1 hu
    rw [hon, getD_both (inv.tail u hu2.1 (by omega))] at h2
    cases h2

/-- the checks: bare ones ahead (up to m), quiet ones (up to n), bare ones (up to p), the others in their order -/
def storeB (md : Region.Mode) (ops : Array Oper) (m n p : Nat) : Bool :=
  Region.noSelect ops && decide (m < n) && decide (n ≤ p) && decide (p < ops.size) && (ops.toList.take m).all bare && ((ops.toList.take p).drop n).all bare && leadB md ops m n &&
    runB md ops (fun L1 => runB md ops (fun L2 => (Region.ready md ops L2).all (fun j => decide (n ≤ j)) && runB md ops (fun L3 => Region.seqB md ops (ops.size - p) p L3) (p - n) n L2) (n - m) m L1) m 0 (Array.replicate ops.size false)

theorem wpQuiet_append {Lq : Act → Prop} : ∀ (l1 l2 : List Oper) (a : Act), wpQuiet P ops C Lq (l1 ++ l2) a → wpQuiet P ops C (fun a' => wpQuiet P ops C Lq l2 a') l1 a
  | [], l2, a, h => h
  | o :: l1, l2, a, h => by
    unfold wpQuiet at h ⊢
    simp only [List.cons_append] at h
    split
    · rename_i hw
      simp only [hw, if_true] at h
      exact Oper.quiet_mono (fun a' h' => wpQuiet_append l1 l2 a' h') h
    · rename_i hw
      simp only [hw] at h
      exact wpQuiet_append l1 l2 _ h

/-- THE REGION: one walk of the written order -/
theorem wp_region_store {id : Nat} {Q : Exit → Act → World → Prop} {a : Act} {w : World} {l : List Oper} (m n p : Nat) (hm : P.follows .mixedOrders = true) (hB : storeB .any l.toArray m n p = true) (hC : C w.drew)
    (hQ : ∀ c a w d v, Q (.panic c) (Act.put a d v) w → Q (.panic c) a w)
    (h : wpQuiet P l.toArray C (fun a' => ∀ w', C w' → wpList P l.toArray Q (l.drop p) a' w') (l.take p) a) : (Code.region id l.toArray true).wp P Q a w := by
  unfold storeB at hB
  simp only [Bool.and_eq_true, decide_eq_true_eq] at hB
  obtain ⟨⟨⟨⟨⟨⟨⟨hsel, hmn⟩, hnp⟩, hps⟩, hb1⟩, hb2⟩, hlead⟩, hrun⟩ := hB
  simp only [List.size_toArray] at hps
  have inv0 : HeadInv .any l.toArray n (Array.replicate l.toArray.size false) :=
    ⟨by simp, fun j oj _ hl => (by rw [getD_replicate_false] at hl; cases hl), fun t _ ht => getD_in (by simpa using ht) (getD_replicate_false _ _)⟩
  have e1 : l.take p = l.take m ++ ((l.take n).drop m ++ (l.take p).drop n) := by
    have q1 : l.take n = l.take m ++ (l.take n).drop m := by
      have := List.take_append_drop m (l.take n)
      rwa [List.take_take, Nat.min_eq_left (by omega), eq_comm] at this
    have q2 : l.take p = l.take n ++ (l.take p).drop n := by
      have := List.take_append_drop n (l.take p)
      rwa [List.take_take, Nat.min_eq_left (by omega), eq_comm] at this
    rw [← List.append_assoc, ← q1, ← q2]
  rw [e1] at h
  have h' := wpQuiet_append _ _ _ h
  have L1 : (l.take m).length = m := by simp; omega
  have L2 : ((l.take n).drop m).length = n - m := by simp; omega
  have L3 : ((l.take p).drop n).length = p - n := by simp; omega
  refine wp_region_any hm ?_
  have hsz : l.toArray.size = m + ((n - m) + ((p - n) + (l.toArray.size - p))) := by simp; omega
  have key := wpAny_bare (C := C) (md := .any) (ops := l.toArray) (P := P) (Q' := Q) (g := (n - m) + ((p - n) + (l.toArray.size - p))) (n := n)
    (G := fun L1 => runB .any l.toArray (fun L2 => (Region.ready .any l.toArray L2).all (fun j => decide (n ≤ j)) && runB .any l.toArray (fun L3 => Region.seqB .any l.toArray (l.toArray.size - p) p L3) (p - n) n L2) (n - m) m L1)
    (Lq := fun a' => wpQuiet P l.toArray C (fun a' => ∀ w', C w' → wpList P l.toArray Q (l.drop p) a' w') ((l.take n).drop m ++ (l.take p).drop n) a') hC hsel hQ (fun _ => True)
    (fun listed a1 hinv hG h1 => by
      have h2 := wpQuiet_append _ _ _ h1
      have H := wpAnyLS_lex (C := C) (md := .any) (ops := l.toArray) (P := P) (m := m) (n := n) hsel (lead_waits hmn hlead)
        (G := fun L2 => (Region.ready .any l.toArray L2).all (fun j => decide (n ≤ j)) && runB .any l.toArray (fun L3 => Region.seqB .any l.toArray (l.toArray.size - p) p L3) (p - n) n L2)
        (fun listed hg j hj => by
          simp only [Bool.and_eq_true] at hg
          exact of_decide_eq_true (List.all_eq_true.1 hg.1 j hj)) ((l.take n).drop m) m listed a1 (fun j hj => by
          rw [L2] at hj
          rw [List.getElem?_drop, List.getElem?_take, if_pos (by omega)]
          simp) (Nat.le_refl _) (by rw [L2]; omega) (hinv trivial) (by rw [L2]; exact hG) h2
      have := wpAny_of_headQ (C := C) (Q' := Q) (g := (p - n) + (l.toArray.size - p)) (fun listed2 a2 w2 hw2 hL => by
        obtain ⟨hg, hq⟩ := hL
        simp only [Bool.and_eq_true] at hg
        have K := wpAny_bare (C := C) (md := .any) (ops := l.toArray) (P := P) (Q' := Q) (g := l.toArray.size - p) (n := n) (G := fun L3 => Region.seqB .any l.toArray (l.toArray.size - p) p L3)
          (Lq := fun a' => ∀ w', C w' → wpList P l.toArray Q (l.drop p) a' w') hw2 hsel hQ (fun _ => False)
          (fun listed3 a3 _ hG3 h3 => by
            have hdl : (l.drop p).length = l.toArray.size - p := by simp
            have h4 := wpAny_of_seq (md := .any) (Q' := Q) (l.drop p) p listed3 a3 w2 (fun j => by simp [List.getElem?_drop]) (by rw [hdl]; exact hG3) (h3 w2 hw2)
            rwa [hdl] at h4) ((l.take p).drop n) n listed2 a2 (fun j hj => by
            rw [L3] at hj
            rw [List.getElem?_drop, List.getElem?_take, if_pos (by omega)]
            simp) (by simpa using hb2) (fun hf => hf.elim) (by rw [L3]; exact hg.2) hq
        rwa [L3] at K) _ _ _ w.drew hC H
      rwa [L2] at this) (l.take m) 0 (Array.replicate l.toArray.size false) a (fun j hj => by
      rw [L1] at hj
      rw [List.getElem?_take, if_pos (by omega)]
      simp) (by simpa using hb1) (fun _ => ⟨by rw [L1]; omega, inv0⟩) (by rw [L1]; exact hrun) h'
  rw [L1, ← hsz] at key
  exact key
theorem region_bel_store {id : Nat} {Q : Exit → Act → World → Prop} {a : Act} {w : World} {l : List Oper} (m n p : Nat) (hm : P.follows .mixedOrders = true) (hB : storeB .any l.toArray m n p = true)
    (hQ : ∀ c a w d v, Q (.panic c) (Act.put a d v) w → Q (.panic c) a w)
    (h : wpQuiet P l.toArray (fun w' => ∃ u : Bel w, w' = u.w') (fun a' => ∀ w', (∃ u : Bel w, w' = u.w') → wpList P l.toArray Q (l.drop p) a' w') (l.take p) a) : (Code.region id l.toArray true).wp P Q a w :=
  wp_region_store (C := fun w' => ∃ u : Bel w, w' = u.w') m n p hm hB (bel_drew w) hQ h
end
end Go.Proofs.Ytpidjekabnnmcaa.qt
