/-
  Given for the seat's laws: a region that draws its order, all of whose operations but the last only read, and the last of which is a call: inside a fence, in a round or in none, one walk of the written order serves. No condition but those of the theorem.
-/
import Derived.StillTail
import Derived.StillTactics
import Derived.OrdersIn
import Derived.TacticsIn
namespace Go.Proofs.YtghdaengkgiekaaGreatDoor.reg
set_option linter.unusedVariables false

/-- an operation that is no call, and enters nothing -/
def calm (o : Oper) : Bool :=
  match o.op with
  | .move _ => true
  | .load _ _ => true
  | .nilCheck _ => true
  | .fieldAddr _ _ _ => true
  | .slice _ _ _ _ _ => true
  | .binOp _ _ _ _ _ => true
  | _ => false

section
variable {F : Fence} {m : Nat} {P : Program} {ops : Array Oper} {md : Region.Mode} {w : World}

theorem calm_about {o : Oper} (h : calm o = true) (w : World) (ρ : Operand → Value) : o.about P w ρ = none := by
  unfold calm at h
  unfold Oper.about
  cases ho : o.op <;> simp_all

theorem value_enter {s : Sem Value} {w w' : World} {f : FuncId} {args : Array Value} (h : (do pure (Next.value (← s)) : Sem Next).run P w = .ok (.enter f args) w') : False := by
  simp only [Sem.run_bind] at h
  cases hs : s.run P w with
  | ok v w1 => rw [hs] at h; simp [Result.andThen] at h
  | halt x w1 => rw [hs] at h; simp [Result.andThen] at h

theorem calm_defer {o : Oper} (h : calm o = true) : ∀ c, o.op ≠ .defer c := by
  intro c hc
  unfold calm at h
  rw [hc] at h
  cases h

theorem enter_bind {α : Type} {s : Sem α} {g : α → Sem Next} {w w' : World} {f : FuncId} {args : Array Value} (h : (s >>= g).run P w = .ok (.enter f args) w') : ∃ x w1, (g x).run P w1 = .ok (.enter f args) w' := by
  simp only [Sem.run_bind] at h
  cases hs : s.run P w with
  | ok v w1 => rw [hs] at h; exact ⟨v, w1, h⟩
  | halt x w1 => rw [hs] at h; simp [Result.andThen] at h

theorem calm_enter {o : Oper} (h : calm o = true) (ρ : Operand → Value) {w w' : World} {f : FuncId} {args : Array Value} (he : (execOp ρ o).run P w = .ok (.enter f args) w') : False := by
  unfold calm at h
  cases ho : o.op <;> rw [ho] at h <;> first | (cases h; done) | skip
  case move x => simp [execOp, ho] at he
  case load t x => simp only [execOp, ho] at he; exact value_enter he
  case fieldAddr t x i => simp only [execOp, ho] at he; exact value_enter he
  case slice t x lo hi mx => simp only [execOp, ho] at he; exact value_enter he
  case binOp p t x y r => simp only [execOp, ho] at he; exact value_enter he
  case nilCheck x =>
    simp only [execOp, ho] at he
    split at he
    · simp [runtimePanic] at he
    · simp [runtimePanic] at he
    · simp [runtimePanic] at he
    · split at he
      · simp [runtimePanic] at he
      · obtain ⟨x1, w1, he⟩ := enter_bind he
        obtain ⟨x2, w2, he⟩ := enter_bind he
        split at he
        · obtain ⟨x3, w3, he⟩ := enter_bind he
          simp at he
        · simp at he
      · simp at he
    · simp at he

theorem wpOpIn_of_still {i : Nat} {K : Act → Prop} {K' : Act → World → Prop} {Q' : Exit → Act → World → Prop} {a : Act} (hc : ∀ o, ops[i]? = some o → calm o = true) (h : ∀ a, K a → K' a w) (hh : stOp P ops w i K a) :
    wpOpIn F m P ops Q' i K' a w := by
  unfold stOp at hh
  unfold wpOpIn
  cases ho : ops[i]? with
  | none => simp only [ho] at hh; exact h _ hh
  | some o =>
    have hcalm := hc o ho
    simp only [ho] at hh ⊢
    by_cases hw : Region.wanted o (yielded ops a.tmps) = true
    · rw [if_pos hw] at hh ⊢
      unfold Oper.still at hh
      unfold Oper.wpIn
      refine ⟨fun f hf => (by rw [calm_about hcalm] at hf; cases hf), ?_⟩
      rw [Oper.semAt_eq _ _ _ (calm_defer hcalm)]
      have hent : ∀ f args w', (execOp a.eval o).run P w ≠ .ok (.enter f args) w' := fun f args w' he => calm_enter hcalm _ he
      generalize (execOp a.eval o).run P w = r at *
      cases r with
      | halt x w' => simp only [Oper.stillUpon] at hh
      | ok x w' =>
        cases x <;> simp only [Oper.stillUpon] at hh <;> simp only [Oper.uponIn]
        case enter f args => exact (hent _ _ _ rfl).elim
        all_goals (obtain ⟨rfl, h2⟩ := hh; exact h _ h2)
    · rw [if_neg hw] at hh ⊢
      exact ⟨fun f hf => (by rw [calm_about hcalm] at hf; cases hf), h _ hh⟩

theorem wpAnyIn_of_head {n g : Nat} {L : Array Bool → Act → Prop} {Q' : Exit → Act → World → Prop} (hc : ∀ i, i < n → ∀ o, ops[i]? = some o → calm o = true)
    (hL : ∀ listed a, L listed a → wpAnyIn F m P md ops Q' g listed a w) :
    ∀ (f : Nat) (listed : Array Bool) (a : Act), wpAnyL P md ops w n L f listed a → wpAnyIn F m P md ops Q' (f + g) listed a w
  | 0, listed, a, h => by rw [Nat.zero_add]; exact hL _ _ h
  | f + 1, listed, a, h => by
    rw [show f + 1 + g = (f + g) + 1 by omega]
    exact ⟨fun h0 => absurd h0 h.1, fun i hi => wpOpIn_of_still (hc i (h.2 i hi).1) (fun a' h' => wpAnyIn_of_head hc hL f _ a' h') (h.2 i hi).2⟩

/-- THE REGION: n operations that only read, and one more, o, behind all of them. -/
theorem wpIn_region_last {id : Nat} {Q : Exit → Act → World → Prop} {a : Act} {l : List Oper} {o : Oper} (n : Nat) (hm : P.follows .mixedOrders = true) (hB : Region.lexTailB .any l.toArray n = true) (hlen : l.length = n + 1) (ho : l[n]? = some o)
    (hg : o.guard = none) (hc : (l.take n).all calm = true)
    (h : wpStill P l.toArray w.drew (fun a' => o.wpIn F m P a' w.drew (fun a2 w2 => Q .normal a2 w2) Q) (l.take n) a) :
    (Code.region id l.toArray true).wpIn F m P Q a w := by
  simp only [Region.lexTailB, Bool.and_eq_true, decide_eq_true_eq] at hB
  obtain ⟨⟨⟨⟨hsel, hn⟩, hs⟩, hch⟩, hlex⟩ := hB
  have hn' : n < l.length := by simpa using hn
  have htl : (l.take n).length = n := by simp; omega
  have hsz : l.toArray.size - n = 1 := by simp; omega
  have inv0 : HeadInv .any l.toArray n (Array.replicate l.toArray.size false) :=
    ⟨by simp, fun j oj _ hl => (by rw [getD_replicate_false] at hl; cases hl), fun t _ ht => getD_in (by simpa using ht) (getD_replicate_false _ _)⟩
  rw [hsz] at hlex
  have H := wpAnyL_lex (md := .any) (g := 1) hsel hs hch hn (l.take n) 0 _ a (fun j hj => by
    have hj' : j < n := by rw [htl] at hj; exact hj
    simp [hj']) (by simpa using htl) inv0 (by rw [htl]; exact hlex) h
  refine wpIn_region_any hm ?_
  have hcalm : ∀ i, i < n → ∀ o', l.toArray[i]? = some o' → calm o' = true := fun i hi o' ho' => by
    have hmem : o' ∈ l.take n := by
      have h1 : (l.take n)[i]? = some o' := by simpa [hi] using ho'
      exact List.mem_of_getElem? h1
    exact List.all_eq_true.1 hc _ hmem
  have := wpAnyIn_of_head (F := F) (m := m) (Q' := Q) (g := 1) hcalm (fun listed a' hL => by
    obtain ⟨hseq, hLq⟩ := hL
    simp only [Region.seqB, Bool.and_eq_true, decide_eq_true_eq, List.isEmpty_iff] at hseq
    refine ⟨fun h0 => (by rw [hseq.1] at h0; cases h0), fun i hi => ?_⟩
    rw [hseq.1] at hi
    have hin : i = n := by simpa using hi
    subst hin
    unfold wpOpIn
    have ho' : l.toArray[i]? = some o := by simpa using ho
    simp only [ho']
    rw [if_pos (by simp [Region.wanted, hg])]
    exact Oper.wpIn_mono (fun a2 w2 h2 => ⟨hseq.2, h2⟩) hLq) _ _ _ H
  rw [htl, show n + 1 = l.toArray.size by simp; omega] at this
  exact this
end
end Go.Proofs.YtghdaengkgiekaaGreatDoor.reg
