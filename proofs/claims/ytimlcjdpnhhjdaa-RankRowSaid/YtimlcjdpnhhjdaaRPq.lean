/-
  Given for the seat's laws: how a row is sorted by partings, over plain rows. No program, no memory.
-/
import Derived.Test.YtimlcjdpnhhjdaaRSort0
namespace Go.Proofs.Ytimlcjdpnhhjdaa.rk
open Go
open Go.Sort (swp PermIn SortedIn permIn_trans permIn_mono permIn_all permIn_refl)
set_option linter.unusedVariables false

theorem PermIn.nodup {d f : Array Nat} {a b : Nat} (hb : b ≤ d.size) (h : PermIn a b d f) (hn : d.toList.Nodup) : f.toList.Nodup := by
  have h2 : PermIn 0 d.size d f := permIn_mono d f a b 0 d.size (Nat.zero_le _) hb (Nat.le_refl _) h
  have h3 := h2.2.2
  rw [Array.extract_size] at h3
  have e : f.extract 0 d.size = f := by rw [← h2.1, Array.extract_size]
  rw [e] at h3
  exact h3.nodup_iff.2 hn
theorem nodup_ne {d : Array Nat} (hn : d.toList.Nodup) {i j : Nat} (hi : i < d.size) (hj : j < d.size) (hij : i ≠ j) : d[i]! ≠ d[j]! := by
  rw [get_bang hi, get_bang hj]
  unfold List.Nodup at hn
  rw [List.pairwise_iff_getElem] at hn
  rcases Nat.lt_or_gt_of_ne hij with h | h
  · have := hn i j (by simpa using hi) (by simpa using hj) h
    simpa using this
  · have := hn j i (by simpa using hj) (by simpa using hi) h
    intro e
    exact this (by simpa using e.symm)

structure PQ (S : Nat → Sc) (d : Array Nat) (a b : Nat) (f : Array Nat) (a1 b1 : Nat) : Prop where
  bd : b ≤ d.size
  le : a ≤ a1 ∧ a1 ≤ b1 ∧ b1 ≤ b
  nd : f.toList.Nodup
  pm : PermIn a b d f
  bl : a1 = 0 ∨ ∀ i, a1 ≤ i → i < b1 → before S f[a1 - 1]! f[i]! = true
  cl : ∀ f', PermIn a1 b1 f f' → SortedIn (before S) a1 b1 f' → SortedIn (before S) a b f'
/-- what a parting at mid gives -/
structure Cut (S : Nat → Sc) (a b mid : Nat) (f : Array Nat) : Prop where
  m : a ≤ mid ∧ mid < b
  l : ∀ i, a ≤ i → i < mid → before S f[i]! f[mid]! = true
  r : ∀ i, mid < i → i < b → before S f[i]! f[mid]! = false
section
variable {S : Nat → Sc} {d f f1 f' : Array Nat} {a b a1 b1 mid : Nat}
theorem PQ.start (hb : b ≤ d.size) (hab : a ≤ b) (hn : d.toList.Nodup) (hl : a = 0 ∨ ∀ i, a ≤ i → i < b → before S d[a - 1]! d[i]! = true) : PQ S d a b d a b :=
  ⟨hb, ⟨Nat.le_refl _, hab, Nat.le_refl _⟩, hn, permIn_refl d a b, hl, fun f' _ h => h⟩
theorem PQ.sz (h : PQ S d a b f a1 b1) : f.size = d.size := h.pm.1
theorem PQ.perm (h : PQ S d a b f a1 b1) (hp : PermIn a1 b1 f f1) : PQ S d a b f1 a1 b1 := by
  have hbf : b1 ≤ f.size := by have := h.sz; have := h.bd; have := h.le; omega
  refine ⟨h.bd, h.le, PermIn.nodup hbf hp h.nd, permIn_trans d f f1 a b h.pm (permIn_mono f f1 a1 b1 a b h.le.1 h.le.2.2 (by have := h.sz; have := h.bd; omega) hp), ?_, fun f' hf hs => h.cl f' (permIn_trans f f1 f' a1 b1 hp hf) hs⟩
  rcases h.bl with h0 | hb
  · exact .inl h0
  · by_cases ha : a1 = 0
    · exact .inl ha
    · right
      have e : f1[a1 - 1]! = f[a1 - 1]! := hp.2.1 (a1 - 1) (.inl (by omega))
      rw [e]
      exact permIn_all f f1 a1 b1 (fun x => before S f[a1 - 1]! x = true) hbf hp hb
theorem PQ.done (h : PQ S d a b f a1 b1) (hp : PermIn a1 b1 f f') (hs : SortedIn (before S) a1 b1 f') : PermIn a b d f' ∧ SortedIn (before S) a b f' := ⟨(h.perm hp).pm, h.cl f' hp hs⟩
theorem PQ.look (h : PQ S d a b f a1 b1) (h0 : 0 < a1) {p : Nat} (h1 : a1 ≤ p) (h2 : p < b1) : before S f[a1 - 1]! f[p]! = true := by
  rcases h.bl with e | e
  · omega
  · exact e p h1 h2
theorem Cut.right (c : Cut S a1 b1 mid f) (hn : f.toList.Nodup) (hb : b1 ≤ f.size) {i : Nat} (h1 : mid < i) (h2 : i < b1) : before S f[mid]! f[i]! = true := by
  have := c.r i h1 h2
  have hm := c.m
  rcases before_total (S := S) f[mid]! f[i]! (nodup_ne hn (by omega) (by omega) (by omega)) with h | h
  · exact h
  · rw [this] at h; cases h
theorem join {x : Array Nat} (hm : a1 ≤ mid ∧ mid < b1) (h1 : SortedIn (before S) a1 mid x) (h2 : SortedIn (before S) (mid + 1) b1 x) (hl : ∀ i, a1 ≤ i → i < mid → before S x[i]! x[mid]! = true) (hr : ∀ i, mid < i → i < b1 → before S x[mid]! x[i]! = true) : SortedIn (before S) a1 b1 x := by
  intro i j hi hij hj
  rcases Nat.lt_trichotomy j mid with h | h | h
  · exact h1 i j hi hij h
  · subst h
    exact before_asymm (hl i hi hij)
  · rcases Nat.lt_trichotomy i mid with k | k | k
    · exact before_asymm (before_trans (hl i hi k) (hr j h hj))
    · subst k
      exact before_asymm (hr j h hj)
    · exact h2 i j k hij hj
theorem PQ.goRight (h : PQ S d a b f a1 b1) (c : Cut S a1 b1 mid f) (hp : PermIn a1 mid f f1) (hs : SortedIn (before S) a1 mid f1) : PQ S d a b f1 (mid + 1) b1 := by
  have hbf : b1 ≤ f.size := by have := h.sz; have := h.bd; have := h.le; omega
  have hm := c.m
  have hle := h.le
  have hp2 : PermIn a1 b1 f f1 := permIn_mono f f1 a1 mid a1 b1 (Nat.le_refl _) (by omega) hbf hp
  have q := h.perm hp2
  have em : f1[mid]! = f[mid]! := hp.2.1 mid (.inr (Nat.le_refl _))
  have er : ∀ i, mid < i → f1[i]! = f[i]! := fun i hi => hp.2.1 i (.inr (by omega))
  have hR : ∀ i, mid < i → i < b1 → before S f1[mid]! f1[i]! = true := fun i h1 h2 => by
    rw [em, er i h1]
    exact c.right h.nd hbf h1 h2
  have hL : ∀ i, a1 ≤ i → i < mid → before S f1[i]! f1[mid]! = true := by
    rw [em]
    exact permIn_all f f1 a1 mid (fun x => before S x f[mid]! = true) (by omega) hp c.l
  refine ⟨h.bd, ⟨by omega, by omega, by omega⟩, q.nd, q.pm, .inr (fun i h1 h2 => by rw [Nat.add_sub_cancel]; exact hR i (by omega) h2), fun f' hf hsf => ?_⟩
  have hf1 : b1 ≤ f1.size := by have := q.sz; have := h.sz; omega
  have hf2 : PermIn a1 b1 f1 f' := permIn_mono f1 f' (mid + 1) b1 a1 b1 (by omega) (Nat.le_refl _) hf1 hf
  refine q.cl f' hf2 ?_
  have eo : ∀ i, i < mid + 1 → f'[i]! = f1[i]! := fun i hi => hf.2.1 i (.inl hi)
  refine join hm (fun i j hi hij hj => ?_) hsf (fun i h1 h2 => ?_) ?_
  · rw [eo i (by omega), eo j (by omega)]
    exact hs i j hi hij hj
  · rw [eo i (by omega), eo mid (by omega)]
    exact hL i h1 h2
  · rw [eo mid (by omega)]
    exact permIn_all f1 f' (mid + 1) b1 (fun x => before S f1[mid]! x = true) hf1 hf (fun i h1 h2 => hR i (by omega) h2)
theorem PQ.goLeft (h : PQ S d a b f a1 b1) (c : Cut S a1 b1 mid f) (hp : PermIn (mid + 1) b1 f f1) (hs : SortedIn (before S) (mid + 1) b1 f1) : PQ S d a b f1 a1 mid := by
  have hbf : b1 ≤ f.size := by have := h.sz; have := h.bd; have := h.le; omega
  have hm := c.m
  have hle := h.le
  have hp2 : PermIn a1 b1 f f1 := permIn_mono f f1 (mid + 1) b1 a1 b1 (by omega) (Nat.le_refl _) hbf hp
  have q := h.perm hp2
  have em : ∀ i, i < mid + 1 → f1[i]! = f[i]! := fun i hi => hp.2.1 i (.inl hi)
  have hL : ∀ i, a1 ≤ i → i < mid → before S f1[i]! f1[mid]! = true := fun i h1 h2 => by
    rw [em i (by omega), em mid (by omega)]
    exact c.l i h1 h2
  have hR : ∀ i, mid + 1 ≤ i → i < b1 → before S f1[mid]! f1[i]! = true := by
    rw [em mid (by omega)]
    exact permIn_all f f1 (mid + 1) b1 (fun x => before S f[mid]! x = true) hbf hp (fun i h1 h2 => c.right h.nd hbf (by omega) h2)
  refine ⟨h.bd, ⟨by omega, by omega, by omega⟩, q.nd, q.pm, ?_, fun f' hf hsf => ?_⟩
  · rcases q.bl with e | e
    · exact .inl e
    · exact .inr (fun i h1 h2 => e i h1 (by omega))
  have hf1 : b1 ≤ f1.size := by have := q.sz; have := h.sz; omega
  have hf2 : PermIn a1 b1 f1 f' := permIn_mono f1 f' a1 mid a1 b1 (Nat.le_refl _) (by omega) hf1 hf
  refine q.cl f' hf2 ?_
  have eo : ∀ i, mid ≤ i → f'[i]! = f1[i]! := fun i hi => hf.2.1 i (.inr hi)
  refine join hm hsf (fun i j hi hij hj => ?_) ?_ (fun i h1 h2 => ?_)
  · rw [eo i (by omega), eo j (by omega)]
    exact hs i j hi hij hj
  · rw [eo mid (Nat.le_refl _)]
    exact permIn_all f1 f' a1 mid (fun x => before S x f1[mid]! = true) (by omega) hf hL
  · rw [eo mid (Nat.le_refl _), eo i (by omega)]
    exact hR i (by omega) h2
theorem PQ.leftBl (h : PQ S d a b f a1 b1) (hm : a1 ≤ mid ∧ mid < b1) : a1 = 0 ∨ ∀ i, a1 ≤ i → i < mid → before S f[a1 - 1]! f[i]! = true := by
  rcases h.bl with e | e
  · exact .inl e
  · exact .inr (fun i h1 h2 => e i h1 (by omega))
theorem PQ.rightBl (h : PQ S d a b f a1 b1) (c : Cut S a1 b1 mid f) : mid + 1 = 0 ∨ ∀ i, mid + 1 ≤ i → i < b1 → before S f[mid + 1 - 1]! f[i]! = true := by
  have hbf : b1 ≤ f.size := by have := h.sz; have := h.bd; have := h.le; omega
  exact .inr (fun i h1 h2 => by rw [Nat.add_sub_cancel]; exact c.right h.nd hbf (by omega) h2)
end
end Go.Proofs.Ytimlcjdpnhhjdaa.rk
