/-
  Given for the seat's laws: one weight of a row of runners of the call's own is set. No condition but those of the theorems.
-/
import Derived.Test.YtimlcjdpnhhjdaaRLLess
namespace Go.Proofs.Ytimlcjdpnhhjdaa.rk
open Go.RowKit mem sp
set_option linter.unusedVariables false

theorem rcells_set : ∀ {l : List Rn} {q : Nat} {x : Rn} (z : Int), l[q]? = some x → rcells (l.set q (x.1, z)) = (rcells l).set (q * 2 + 1) (.int .i64 z)
  | y :: l, 0, x, z, h => by
    have : y = x := by simpa using h
    subst this
    rfl
  | y :: l, q + 1, x, z, h => by
    have h' : l[q]? = some x := by simpa using h
    have := rcells_set z h'
    rw [show (q + 1) * 2 + 1 = q * 2 + 1 + 2 by omega]
    show _ :: _ :: rcells (l.set q (x.1, z)) = _ :: _ :: (rcells l).set (q * 2 + 1) _
    rw [this]
theorem MadeX.set {w wr : World} {A : Option Addr} {n c q : Nat} {l : List Rn} {x : Rn} (h : MadeX w wr (.slice A n c) l) (hn : l.length = n) (hq : l[q]? = some x) (z : Int) :
    ∃ g, A = some ⟨g, 0, none⟩ ∧ wr.cell? ⟨g, q * 2 + 1, none⟩ = some (.int .i64 x.2) ∧ wr.frozen? ⟨g, q * 2 + 1, none⟩ = false ∧ w.heap.size ≤ g ∧
      MadeX w (wr.setCell ⟨g, q * 2 + 1, none⟩ (.int .i64 z)) (.slice A n c) (l.set q (x.1, z)) := by
  have hql := (List.getElem?_eq_some_iff.1 hq).1
  have h1 := h.own
  rw [hn] at h1
  rcases h1.2 with ⟨hv, hn0⟩ | ⟨g, cap, cur, hv, hb, hh, hnc, hm, hs, ht⟩
  · omega
  · simp only [Value.slice.injEq] at hv
    obtain ⟨rfl, _, rfl⟩ := hv
    have hc := (rcells_get hq).2
    have hc2 := hc
    rw [← ht, List.getElem?_take] at hc2
    split at hc2
    · refine ⟨g, rfl, ?_, ?_, hb, ?_, ?_⟩
      · simp [World.cell?, hh]
        simpa using hc2
      · simp [World.frozen?, hh]
      · rw [List.length_set, hn]
        refine ⟨by rw [rcells_len, List.length_set, hn], .inr ⟨g, c, cur.setIfInBounds (q * 2 + 1) (.int .i64 z), rfl, hb, ?_, hnc, hm, by simpa using hs, ?_⟩⟩
        · simp [World.setCell, Array.getElem?_modify, hh]
        · rw [rcells_set z hq, ← ht]
          rw [Array.toList_setIfInBounds, List.take_set]
      · exact h.below.setCell (p := ⟨g, q * 2 + 1, none⟩) hb _
    · cases hc2
theorem SR_set {key : Str} {l : List Rn} {q j : Nat} {y : Rn} (hj : j ≠ q) (hl : j < l.length) : SR key (l.set q y) j = SR key l j := by
  obtain ⟨x, hx⟩ : ∃ x, l[j]? = some x := ⟨_, List.getElem?_eq_getElem hl⟩
  rw [SR_get hx]
  apply SR_get
  rw [List.getElem?_set_ne (fun e => hj e.symm)]
  exact hx
theorem SR_most {key : Str} {l : List Rn} {q : Nat} {x : Rn} (hx : l[q]? = some x) {z : Int} (hz : x.2 ≤ z) : most (SR key l q) (SR key (l.set q (x.1, z)) q) := by
  have hql := (List.getElem?_eq_some_iff.1 hx).1
  have h2 : (l.set q (x.1, z))[q]? = some (x.1, z) := by rw [List.getElem?_set_self hql]
  rw [SR_get hx, SR_get h2]
  exact sco_most _ _ _ hz
theorem nms_set {l : List Rn} {q : Nat} {x : Rn} {z : Int} (hx : l[q]? = some x) : nms (l.set q (x.1, z)) = nms l := by
  unfold nms
  rw [List.map_set]
  have h : (l.map Prod.fst)[q]? = some x.1 := by rw [List.getElem?_map, hx]; rfl
  obtain ⟨hq, he⟩ := List.getElem?_eq_some_iff.1 h
  conv => lhs; arg 3; rw [← he]
  exact List.set_getElem_self hq
end Go.Proofs.Ytimlcjdpnhhjdaa.rk
