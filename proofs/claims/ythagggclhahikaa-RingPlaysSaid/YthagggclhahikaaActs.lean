/-
  Given for the seat's laws: a list of acts as it lies in memory, and the function Great over it. No condition but that the cells read so.
-/
import Derived.Test.YthagggclhahikaaRows
import Derived.WalkKit
import Derived.WalkSpells
import Derived.WalkLawsBesides
import Derived.ProofKit
import Derived.OpenShut
import Derived.ChangeOld
import Derived.Below
import Derived.Lib.SmallJoins
import Derived.Lib.Hide
namespace Go.Proofs.Ythagggclhahikaa.acts
open Go.ChangeShapes Go.WideShapes Go.ChangeAt Go.RowKit Go.Joins
set_option linter.unusedVariables false

/-- an act as it lies in memory: its kind, its number, its bytes' slice -/
structure ActD where
  kind : Int
  n : Int
  A : Option Addr
  l : Nat
  c : Nat

/-- the acts lie one behind the other, three cells each -/
def ActsAt (w : World) (A : Option Addr) (acts : List ActD) : Prop :=
  0 < acts.length → ∃ b off, A = some ⟨b, off, none⟩ ∧ ∀ (i : Nat) (x : ActD), acts[i]? = some x →
    w.cell? ⟨b, off + i * 3, none⟩ = some (.int .u8 x.kind) ∧ w.cell? ⟨b, off + i * 3 + 1, none⟩ = some (.int .i64 x.n) ∧ w.cell? ⟨b, off + i * 3 + 2, none⟩ = some (.slice x.A x.l x.c)

def greatB (acts : List ActD) : Bool := decide (100 < acts.length) || acts.any fun x => decide (300 < x.l)

theorem greatB_true {acts : List ActD} {i : Nat} {x : ActD} (h : acts[i]? = some x) (hl : 300 < x.l) : greatB acts = true := by
  unfold greatB
  have : x ∈ acts := List.mem_of_getElem? h
  simp only [Bool.or_eq_true, List.any_eq_true]
  exact .inr ⟨x, this, by simpa using hl⟩

theorem greatB_false {acts : List ActD} (h0 : acts.length ≤ 100) (h : ∀ (i : Nat) (x : ActD), acts[i]? = some x → x.l ≤ 300) : greatB acts = false := by
  unfold greatB
  simp only [Bool.or_eq_false_iff, List.any_eq_false]
  refine ⟨by simpa using h0, fun x hx => ?_⟩
  obtain ⟨i, hi⟩ := List.getElem?_of_mem hx
  simpa using h i x hi

theorem greatB_len {acts : List ActD} (h : greatB acts = false) : acts.length ≤ 100 := by
  unfold greatB at h
  simp only [Bool.or_eq_false_iff] at h
  simpa using h.1

theorem greatB_each {acts : List ActD} (h : greatB acts = false) {i : Nat} {x : ActD} (hi : acts[i]? = some x) : x.l ≤ 300 := by
  have := mt (greatB_true hi)
  rcases Nat.lt_or_ge 300 x.l with hl | hl
  · rw [greatB_true hi hl] at h; cases h
  · exact hl

set_option maxHeartbeats 400000 in
theorem great_any (A : Option Addr) (c : Nat) (acts : List ActD) (w : World) (hm : acts.length ≤ maxLen) (ha : ActsAt w A acts) :
    Calls Try.prog 8 #[.slice A acts.length c] w fun e w' => e = .returned (.bool (greatB acts)) ∧ w = w' := by
  unfold maxLen at hm
  by_cases h100 : 100 < acts.length
  · have hg : greatB acts = true := by simp [greatB, h100]
    have HG := Lib.hid hg
    clear hg ha
    go_enter Try.func8, Try.ntmps8
    go_wp2
    go_ret
    exact ⟨by rw [HG.out]; rfl, rfl⟩
  · generalize hlen : acts.length = len at *
    have HL := Lib.hid hlen
    clear hlen
    go_enter Try.func8, Try.ntmps8
    go_wp2
    go_loop [3] (fun i => ∃ k : Nat, k ≤ len ∧ i = .int .i64 k ∧ Hid (∀ (j : Nat) (x : ActD), j < k → acts[j]? = some x → x.l ≤ 300)) (fun i => len - (intOf i).toNat)
    case atStart => exact ⟨0, Nat.zero_le _, rfl, fun j x hj => absurd hj (by omega)⟩
    case round =>
      obtain ⟨k, hk, rfl, hbelow⟩ := hrel
      by_cases hlt : k < len
      · obtain ⟨b, off, rfl, hc⟩ := ha (by rw [HL.out]; omega)
        obtain ⟨x, hx⟩ : ∃ x, acts[k]? = some x := ⟨_, List.getElem?_eq_getElem (by rw [HL.out]; exact hlt)⟩
        have h2 := (hc k x hx).2.2
        have HX := Lib.hid hx
        have HC := Lib.hid hc
        clear hx hc ha
        by_cases hbig : 300 < x.l
        · go_wp2
          go_ret
          exact ⟨by rw [greatB_true HX.out hbig]; rfl, rfl⟩
        · go_wp2
          go_round
          case rel =>
            refine ⟨k + 1, by omega, by go_num, fun j y hj hy => ?_⟩
            by_cases hjk : j = k
            · subst hjk
              have := HX.out
              rw [hy] at this
              cases this
              omega
            · exact hbelow.out j y (by omega) hy
          case measure => simp [intOf]; omega
      · go_wp2
        go_ret
        have HF : greatB acts = false := greatB_false (by rw [HL.out]; omega) fun i x hi => hbelow.out i x (by have := (List.getElem?_eq_some_iff.1 hi).1; rw [HL.out] at this; omega) hi
        exact ⟨by rw [HF]; rfl, rfl⟩

end Go.Proofs.Ythagggclhahikaa.acts
