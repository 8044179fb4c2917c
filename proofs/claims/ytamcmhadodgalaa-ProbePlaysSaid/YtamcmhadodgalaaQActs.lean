/-
  Given for 'Rows.ProbePlaysSaid': a list of acts as it lies in memory, the function Great over it, and a copy of a row that came in. No condition but those of the theorems.
-/
import Derived.Test.YtamcmhadodgalaaQRKeys
import Derived.Test.YtamcmhadodgalaaQRAdd
import Derived.Deep.RegionLaw
import Derived.Laws.OwnMore
namespace Go.Proofs.Ytamcmhadodgalaa.plays
open Go.RowKit mem find pb pl model
set_option linter.unusedVariables false

/-- an act as it lies in memory -/
structure ActD where
  kd : Int
  n : Int
  A : Option Addr
  c : Nat
  ws : List Int

/-- the acts lie one behind the other, three cells each; each's wanted keys lie somewhere -/
structure ActsAt (w : World) (A : Option Addr) (acts : List ActD) : Prop where
  ex : 0 < acts.length → ∃ b off, A = some ⟨b, off, none⟩ ∧ b < w.heap.size ∧ ∀ (i : Nat) (x : ActD), acts[i]? = some x →
    w.cell? ⟨b, off + i * 3, none⟩ = some (.int .u8 x.kd) ∧ w.cell? ⟨b, off + i * 3 + 1, none⟩ = some (.int .i64 x.n) ∧ w.cell? ⟨b, off + i * 3 + 2, none⟩ = some (.slice x.A x.ws.length x.c) ∧
    0 ≤ x.kd ∧ x.kd ≤ 255 ∧ x.ws.length ≤ maxLen ∧ RowAt w (fun g => g < w.heap.size) x.A (I8 x.ws) ∧ (x.A = none → x.ws.length = 0 ∧ x.c = 0)

theorem ActsAt.below {w w' : World} {A : Option Addr} {acts : List ActD} (h : ActsAt w A acts) (hb : Below w.heap.size w w') : ActsAt w' A acts := ⟨fun hp => by
  obtain ⟨b, off, hA, hlt, hc⟩ := h.ex hp
  refine ⟨b, off, hA, Nat.lt_of_lt_of_le hlt hb.size, fun i x hx => ?_⟩
  obtain ⟨h1, h2, h3, h4, h5, h6, h7, h8⟩ := hc i x hx
  exact ⟨(hb.cell (p := ⟨b, off + i * 3, none⟩) hlt).trans h1, (hb.cell (p := ⟨b, off + i * 3 + 1, none⟩) hlt).trans h2, (hb.cell (p := ⟨b, off + i * 3 + 2, none⟩) hlt).trans h3, h4, h5, h6, (h7.below hb fun g hg => hg).weak fun g hg => Nat.lt_of_lt_of_le hg hb.size, h8⟩⟩

/-- are these more than are gone through? -/
def greatB (acts : List ActD) : Bool := decide (150 < acts.length) || acts.any fun x => decide (100 < x.ws.length)
theorem greatB_no {acts : List ActD} (h0 : acts.length ≤ 150) (h : ∀ (i : Nat) (x : ActD), acts[i]? = some x → x.ws.length ≤ 100) : greatB acts = false := by
  unfold greatB
  simp only [Bool.or_eq_false_iff, decide_eq_false_iff_not, List.any_eq_false, decide_eq_true_eq]
  refine ⟨by omega, fun x hx => ?_⟩
  obtain ⟨i, hi⟩ := List.getElem?_of_mem hx
  have := h i x hi
  omega
theorem greatB_each {acts : List ActD} (h : greatB acts = false) : acts.length ≤ 150 ∧ ∀ (i : Nat) (x : ActD), acts[i]? = some x → x.ws.length ≤ 100 := by
  unfold greatB at h
  simp only [Bool.or_eq_false_iff, decide_eq_false_iff_not, List.any_eq_false, decide_eq_true_eq] at h
  exact ⟨by omega, fun i x hx => by have := h.2 x (List.mem_of_getElem? hx); omega⟩
theorem greatB_long {acts : List ActD} (h : 150 < acts.length) : greatB acts = true := by unfold greatB; simp [h]
theorem greatB_at {acts : List ActD} {i : Nat} {x : ActD} (hx : acts[i]? = some x) (h : 100 < x.ws.length) : greatB acts = true := by
  rcases hg : greatB acts with _ | _
  · have := (greatB_each hg).2 i x hx; omega
  · rfl

set_option maxHeartbeats 1000000 in
theorem great_any (A : Option Addr) (c : Nat) (acts : List ActD) (w : World) (hm : acts.length ≤ maxLen) (ha : ActsAt w A acts) :
    Calls Try.prog 7 #[.slice A acts.length c] w fun e w' => e = .returned (.bool (greatB acts)) ∧ w = w' := by
  unfold maxLen at hm
  by_cases h150 : 150 < acts.length
  · have HG := Bx.mk (greatB_long h150)
    clear ha
    go_enter Try.func7, Try.ntmps7
    go_wp2
    go_ret
    exact ⟨by rw [HG.out]; rfl, rfl⟩
  · generalize hlen : acts.length = len at *
    have HL := Bx.mk hlen
    have HA := Bx.mk ha
    clear hlen ha
    go_enter Try.func7, Try.ntmps7
    go_wp2
    go_loop [3] (fun i => ∃ k : Nat, k ≤ len ∧ i = .int .i64 k ∧ Bx (∀ (j : Nat) (x : ActD), j < k → acts[j]? = some x → x.ws.length ≤ 100)) (fun i => len - (intOf i).toNat)
    case atStart => exact ⟨0, Nat.zero_le _, rfl, ⟨fun j x hj => absurd hj (by omega)⟩⟩
    case round =>
      obtain ⟨k, hk, rfl, hbelow⟩ := hrel
      by_cases hlt : k < len
      · obtain ⟨b, off, rfl, _, hc⟩ := HA.out.ex (by rw [HL.out]; omega)
        obtain ⟨x, hx⟩ : ∃ x, acts[k]? = some x := ⟨_, List.getElem?_eq_getElem (by rw [HL.out]; exact hlt)⟩
        obtain ⟨_, _, h3, _, _, h6, _⟩ := hc k x hx
        have HX := Bx.mk hx
        unfold maxLen at h6
        obtain ⟨m, hmm⟩ : ∃ m, x.ws.length = m := ⟨_, rfl⟩
        rw [hmm] at h3 h6
        have HM := Bx.mk hmm
        clear hx hc hmm
        by_cases h1 : 100 < m
        · go_wp2
          go_ret
          exact ⟨by rw [greatB_at HX.out (by rw [HM.out]; exact h1)]; rfl, rfl⟩
        · have hno : Bx (∀ (j : Nat) (x : ActD), j < k + 1 → acts[j]? = some x → x.ws.length ≤ 100) := ⟨fun j y hj hy => by
            by_cases hjk : j = k
            · subst hjk
              have := HX.out
              rw [hy] at this
              cases this
              rw [HM.out]; omega
            · exact hbelow.out j y (by omega) hy⟩
          clear hbelow
          go_wp2
          go_round
          case rel => exact ⟨k + 1, by omega, by go_num, hno⟩
          case measure => simp [intOf]; omega
      · have HF : greatB acts = false := greatB_no (by rw [HL.out]; omega) fun i x hi => hbelow.out i x (by have := (List.getElem?_eq_some_iff.1 hi).1; rw [HL.out] at this; omega) hi
        have HF2 := Bx.mk HF
        clear HF hbelow
        go_wp2
        go_ret
        exact ⟨by rw [HF2.out]; rfl, rfl⟩

theorem add_at' (g off j : Nat) : (⟨g, off, none⟩ : Addr).add j = ⟨g, off + j, none⟩ := by
  unfold Addr.add
  split
  · next h => subst h; rfl
  · rfl
/-- a copy of a row that came in -/
theorem copy_row {w : World} {A : Option Addr} {n c : Nat} {ws : List Int} (h : RowAt w (fun g => g < w.heap.size) A (I8 ws)) (hn : ws.length = n) (hz : A = none → n = 0 ∧ c = 0) (hb : n ≤ 1000) :
    ∃ A' c' w2, (Builtin.append_ #[31, 31] 31 #[.slice (some ⟨w.heap.size, 0, none⟩) 0 0, .slice A n c]).run Try.prog (w.alloc (.cells #[] 3)) = .ok (.slice A' n c') w2 ∧ w2.ownsRow w.heap.size 3 1 (.slice A' n c') n (I8 ws) ∧ Below w.heap.size w w2 := by
  obtain ⟨i0, hinf, hz0, hz1, hz2⟩ := info_parts infoInt
  have h3 : (w.alloc (.cells #[] 3)).ownsRow w.heap.size 3 1 (.slice (some ⟨w.heap.size, 0, none⟩) (0 : Nat) 0) 0 [] := ⟨rfl, .inr ⟨w.heap.size, 0, #[], rfl, Nat.le_refl _, heap_alloc_new w _, Nat.le_refl _, by unfold maxLen; omega, rfl, rfl⟩⟩
  have hal : Below w.heap.size w (w.alloc (.cells #[] 3)) := (Below.refl _ _).alloc (Nat.le_refl _) _
  have hone : ∀ u ∈ I8 ws, u.oneCell' = true := fun u hu => by
    unfold I8 at hu
    obtain ⟨z, _, rfl⟩ := List.mem_map.1 hu
    rfl
  cases A with
  | none =>
    obtain ⟨rfl, rfl⟩ := hz rfl
    obtain rfl : ws = [] := List.length_eq_zero_iff.1 hn
    exact ⟨_, _, _, run_append_owned_none (P := Try.prog) (w.alloc (.cells #[] 3)) w.heap.size 31 31 3 i0 1 Try.underlying31 hinf _ 0 [] h3, h3, hal⟩
  | some a =>
    have hc : ∀ j u, (I8 ws)[j]? = some u → (w.alloc (.cells #[] 3)).cell? (a.add j) = some u := fun j u hu => by
      obtain ⟨g, off, e, ho, hcc⟩ := h.ex (by have := (List.getElem?_eq_some_iff.1 hu).1; omega)
      cases e
      rw [add_at']
      exact (World.cell?_of_block (hal.block g ho)).trans (hcc j u hu)
    obtain ⟨v', w', hr, ho, hg, _⟩ := run_append_own (P := Try.prog) (w.alloc (.cells #[] 3)) w.heap.size 31 31 3 i0 (.int .i64 0) 1 8 Try.underlying31 hinf hz0 hz1 hz2 rfl (by decide) _ 0 [] h3 a n c (I8 ws) (by rw [I8_len, hn, Nat.mul_one]) hc hone (by unfold maxLen; omega) (by omega) hal.size
    rw [Nat.zero_add, List.nil_append] at ho
    obtain ⟨A', c', rfl⟩ := own_form ho
    exact ⟨A', c', w', hr, ho, hal.grown hg hal.size (fun k hk => (own_cell h3 hk).1)⟩
end Go.Proofs.Ytamcmhadodgalaa.plays
