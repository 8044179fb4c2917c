/-
  Given for the seat's laws: rows as they lie, and the contract of the law's own Great. No condition but those of the theorems.
-/
import Derived.Test.YtimlcjdpnhhjdaaPMade
import Derived.Test.YtimlcjdpnhhjdaaRPure
namespace Go.Proofs.Ytimlcjdpnhhjdaa.rk
open Go.RowKit mem sp
set_option linter.unusedVariables false

/-- values as they lie one behind the other, in a block that ok lets in -/
structure RowAt (w : World) (ok : Nat → Prop) (A : Option Addr) (vs : List Value) : Prop where
  ex : 0 < vs.length → ∃ g off, A = some ⟨g, off, none⟩ ∧ ok g ∧ ∀ (j : Nat) (v : Value), vs[j]? = some v → w.cell? ⟨g, off + j, none⟩ = some v
section
variable {w w' : World} {ok ok' : Nat → Prop} {A : Option Addr} {vs : List Value}
theorem RowAt.keep (h : RowAt w ok A vs) (hk : ∀ g, ok g → w'.heap[g]? = w.heap[g]?) : RowAt w' ok A vs := ⟨fun hp => by
  obtain ⟨g, off, e, ho, hc⟩ := h.ex hp
  exact ⟨g, off, e, ho, fun j v hv => (World.cell?_of_block (hk g ho)).trans (hc j v hv)⟩⟩
theorem RowAt.weak (h : RowAt w ok A vs) (hk : ∀ g, ok g → ok' g) : RowAt w ok' A vs := ⟨fun hp => by
  obtain ⟨g, off, e, ho, hc⟩ := h.ex hp
  exact ⟨g, off, e, hk g ho, hc⟩⟩
theorem RowAt.below {B : Nat} (h : RowAt w ok A vs) (hb : Below B w w') (hg : ∀ g, ok g → g < B) : RowAt w' ok A vs := h.keep fun g hk => hb.block g (hg g hk)
theorem RowAt.cell (h : RowAt w ok A vs) {j : Nat} {v : Value} (hv : vs[j]? = some v) : ∃ g off, A = some ⟨g, off, none⟩ ∧ ok g ∧ w.cell? ⟨g, off + j, none⟩ = some v := by
  obtain ⟨g, off, e, ho, hc⟩ := h.ex (by have := (List.getElem?_eq_some_iff.1 hv).1; omega)
  exact ⟨g, off, e, ho, hc j v hv⟩
theorem RowAt.of_lies {g : Nat} {t : TypeId} {cs : Array Value} (h : Lies w g t cs) (ho : ok g) (hv : cs.toList = vs) : RowAt w ok (some ⟨g, 0, none⟩) vs := ⟨fun _ => ⟨g, 0, rfl, ho, fun j v hj => by
  rw [Nat.zero_add, h.cell]
  rw [← hv] at hj
  simpa using hj⟩⟩
/-- a row of the call's own -/
theorem RowAt.of_own {B : Nat} {t : TypeId} {n c : Nat} (h : w.ownsRow B t 1 (.slice A n c) n vs) : RowAt w (fun g => B ≤ g ∧ g < w.heap.size ∧ (Value.slice A n c).ownBlock = some g) A vs := ⟨fun hp => by
  have hl := h.1
  rcases h.2 with ⟨hv, hn⟩ | ⟨g, cap, cur, hv, hb, hh, hnc, hm, hs, ht⟩
  · subst hn; simp at hl; subst hl; simp at hp
  · simp only [Value.slice.injEq] at hv
    obtain ⟨rfl, _, rfl⟩ := hv
    refine ⟨g, 0, rfl, ⟨hb, (Array.getElem?_eq_some_iff.1 hh).1, rfl⟩, fun j v hj => ?_⟩
    rw [← ht, List.getElem?_take] at hj
    split at hj
    · simp [World.cell?, hh, Nat.zero_add]
      simpa using hj
    · cases hj⟩
end
def strs (l : List Str) : List Value := l.map fun x => .string (S x)
def nats (l : List Nat) : List Value := l.map fun x : Nat => .int .i64 (x : Int)
def intv (l : List Int) : List Value := l.map fun x => .int .i64 x
theorem strs_len (l : List Str) : (strs l).length = l.length := by simp [strs]
theorem nats_len (l : List Nat) : (nats l).length = l.length := by simp [nats]
theorem intv_len (l : List Int) : (intv l).length = l.length := by simp [intv]
theorem strs_get {l : List Str} {j : Nat} {x : Str} (h : l[j]? = some x) : (strs l)[j]? = some (.string (S x)) := by simp [strs, h]
theorem nats_get {l : List Nat} {j x : Nat} (h : l[j]? = some x) : (nats l)[j]? = some (.int .i64 (x : Int)) := by simp [nats, h]
theorem intv_get {l : List Int} {j : Nat} {x : Int} (h : l[j]? = some x) : (intv l)[j]? = some (.int .i64 x) := by simp [intv, h]

/-- is it more than is gone through -/
def gr (n : Nat) (l : List Str) : Bool := decide (100 < n) || decide (16 < l.length) || l.any (fun x => decide (40 < x.length))
theorem gr_no {n : Nat} {l : List Str} (h : gr n l = false) : n ≤ 100 ∧ l.length ≤ 16 ∧ ∀ x ∈ l, x.length ≤ 40 := by
  unfold gr at h
  simp only [Bool.or_eq_false_iff, decide_eq_false_iff_not, List.any_eq_false, decide_eq_true_eq] at h
  exact ⟨by omega, by omega, fun x hx => by have := h.2 x hx; omega⟩

set_option maxHeartbeats 4000000 in
set_option maxRecDepth 100000 in
theorem great_any {w : World} {ok : Nat → Prop} {K : Option Addr} {n c : Nat} {A : Option Addr} {m d : Nat} {l : List Str} (hl : l.length = m) (hr : RowAt w ok A (strs l)) : Calls Try.prog 9 #[.slice K n c, .slice A m d] w fun e w' => e = .returned (.bool (gr n l)) ∧ w' = w := by
  by_cases h1 : 100 < n
  · have hg : gr n l = true := by simp [gr, h1]
    rw [hg]
    have h1z : (100 : Int) < (n : Int) := by omega
    go_enter Try.func9, Try.ntmps9
    go_wp2
    go_ret
    exact ⟨rfl, rfl⟩
  have h1z : (n : Int) ≤ 100 := by omega
  by_cases h2 : 16 < m
  · have hg : gr n l = true := by simp [gr, hl, h2]
    rw [hg]
    have h2z : (16 : Int) < (m : Int) := by omega
    clear h1
    go_enter Try.func9, Try.ntmps9
    go_wp2
    go_ret
    exact ⟨rfl, rfl⟩
  have h2z : (m : Int) ≤ 16 := by omega
  have hg : gr n l = l.any (fun x => decide (40 < x.length)) := by simp [gr, hl, h1, h2]
  rw [hg]
  have HR := Bx.mk hr
  have HL := Bx.mk hl
  obtain ⟨rr, hrr⟩ : ∃ rr, l.any (fun x => decide (40 < x.length)) = rr := ⟨_, rfl⟩
  rw [hrr]
  have HRR := Bx.mk hrr
  clear h1 h2 hg hr hl hrr
  go_enter Try.func9, Try.ntmps9
  go_wp2
  go_loop [5] (fun s5 => ∃ i : Nat, i ≤ m ∧ s5 = .int .i64 (i : Int) ∧ Bx (∀ x ∈ l.take i, x.length ≤ 40)) (fun s5 => m - (intOf s5).toNat)
  case atStart => exact ⟨0, by omega, rfl, ⟨by simp⟩⟩
  case round =>
    obtain ⟨i, hi, rfl, HA⟩ := hrel
    by_cases hlt : i < m
    · obtain ⟨x, hx⟩ : ∃ x, l[i]? = some x := ⟨_, List.getElem?_eq_getElem (by rw [HL.out]; exact hlt)⟩
      obtain ⟨g, off, rfl, hok, hc⟩ := HR.out.cell (strs_get hx)
      obtain ⟨k, hk⟩ : ∃ k, (S x).size = k := ⟨_, rfl⟩
      have hxk : x.length = k := by rw [← S_size]; exact hk
      by_cases h40 : 40 < k
      · have ht : l.any (fun x => decide (40 < x.length)) = true := List.any_eq_true.2 ⟨x, List.mem_of_getElem? hx, by rw [hxk]; simpa using h40⟩
        have hrt := Bx.mk (HRR.out.symm.trans ht)
        have h40z : (40 : Int) < (k : Int) := by omega
        clear hx hxk ht
        go_wp2
        go_ret
        exact ⟨by rw [hrt.out]; rfl, rfl⟩
      · have h40z : (k : Int) ≤ 40 := by omega
        have HA2 : Bx (∀ y ∈ l.take (i + 1), y.length ≤ 40) := ⟨fun y hy => by
          rw [List.take_add_one, hx] at hy
          rcases List.mem_append.1 hy with q | q
          · exact HA.out y q
          · simp at q; subst q; omega⟩
        clear hx hxk h40 HA
        go_wp2
        go_round
        case rel => exact ⟨i + 1, by omega, by go_num, HA2⟩
        case measure => simp [intOf]; omega
    · obtain rfl : i = m := by omega
      have ht : l.any (fun x => decide (40 < x.length)) = false := by
        rw [List.any_eq_false]
        intro x hx
        have := HA.out x (by rw [List.take_of_length_le (by rw [HL.out]; exact Nat.le_refl _)]; exact hx)
        simp; omega
      have hrt := Bx.mk (HRR.out.symm.trans ht)
      go_wp2
      go_ret
      exact ⟨by rw [hrt.out]; rfl, rfl⟩
end Go.Proofs.Ytimlcjdpnhhjdaa.rk
