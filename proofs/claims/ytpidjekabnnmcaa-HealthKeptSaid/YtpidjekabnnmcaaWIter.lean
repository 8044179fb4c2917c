/-
  Given for the seat's laws: the function that outcomes hands back, when it is ranged over: each outcome that is kept, the oldest first. No condition but those of the theorems.
-/
import Derived.Test.YtpidjekabnnmcaaWRange
namespace Go.Proofs.Ytpidjekabnnmcaa.wn
open Go.RowKit Go.Shelf mem reg
set_option linter.unusedVariables false
attribute [local go_sem] Oper.semAt_some

theorem and_all : ((List.range 256).all fun b => (List.range 8).all fun p => Nat.beq (b &&& 2 ^ p) 0 == Nat.beq (b / 2 ^ p % 2) 0) = true := by decide +kernel
theorem and_at {b p : Nat} (hb : b < 256) (hp : p < 8) : Nat.beq (b &&& 2 ^ p) 0 = Nat.beq (b / 2 ^ p % 2) 0 := by
  have h := and_all
  rw [List.all_eq_true] at h
  have h2 := h b (List.mem_range.2 hb)
  rw [List.all_eq_true] at h2
  simpa using h2 p (List.mem_range.2 hp)
theorem bit_at {n b k p : Nat} (hn : n ≤ 8) (hb : b < 256) (hk : k < n) (hp : n - 1 - k = p) : (bits .and .u16 (b : Int) (IntKind.u16.wrap ((2 : Int) ^ p)) == 0) = bitg n b k := by
  have h2 : (2 : Nat) ^ p ≤ 256 := pow_le p (by omega)
  have hw : IntKind.u16.wrap ((2 : Int) ^ p) = ((2 ^ p : Nat) : Int) := by
    rw [← wrap_small (n := 2 ^ p) (by omega)]
    simp
  rw [hw, u16_and_nat _ _ (by omega) (by omega)]
  unfold bitg
  rw [hp, ← and_at hb (by omega)]
  cases h : Nat.beq (b &&& 2 ^ p) 0 with
  | true =>
    rw [Nat.eq_of_beq_eq_true h]
    rfl
  | false =>
    have := Nat.ne_of_beq_eq_false h
    exact beq_eq_false_iff_ne.2 (by omega)

theorem firm_drew {B : Nat} {R : World → Prop} (hR : Firm B R) {W : World} (hr : R W) : R W.drew := hR W _ ((KeepsOthers.drew W).from B) hr

set_option maxRecDepth 100000 in
set_option maxHeartbeats 2000000 in
theorem outs1_seq (F : Fence) (m : Nat) (hF : F.fn 77) (hro : F.round = none) (hm : 1 ≤ m) (B Bk Bb n b : Nat) (hn : n ≤ 8) (hb : b < 256) (I Y : Nat → World → Prop) (Ix Fin : World → Prop)
    (hhead : ∀ k W, I k W → W.cell? ⟨Bk, 0, none⟩ = some (.int .i64 (n : Int)) ∧ W.cell? ⟨Bb, 0, none⟩ = some (.int .u16 (b : Int)))
    (hstep : ∀ k W, I k W → k < n → Y k W.drew)
    (hfin : ∀ W, I n W → Fin W) :
    SeqW F m Try.prog 77 #[.pointer (some ⟨Bk, 0, none⟩), .pointer (some ⟨Bb, 0, none⟩)] (fun k => #[.bool (bitg n b k)]) B I Y Ix Fin := fun l R Rx W hR hRx hBW h0 hr hY => by
  have HH := Bx.mk hhead
  have HS := Bx.mk hstep
  have HF := Bx.mk hfin
  have HYY := Bx.mk hY
  have HR := Bx.mk hR
  have H0 := Bx.mk h0
  have HR0 := Bx.mk hr
  obtain ⟨c1, c2⟩ := hhead 0 W h0
  clear hhead hstep hfin hY hR hRx h0 hr
  refine callsIn_of_wp Try.func77 rfl hF ?_ hro
  simp only [Try.ntmps77, List.size_toArray, List.length_cons, List.length_nil, Nat.reduceAdd, Nat.reduceSub, Array.replicate_succ, Array.replicate_zero, List.push_toArray, List.append_toArray, List.nil_append, List.cons_append]
  gi_wp2
  gi_loopw [4] (fun s4 wr => ∃ (k : Nat) (z : Int), k ≤ n ∧ s4 = .int .i64 z ∧ z = (n : Int) - 1 - (k : Int) ∧ Bx (I k wr) ∧ Bx (R wr)) (fun s4 wr => (intOf s4 + 1).toNat)
  case atStart => exact ⟨0, _, by omega, rfl, by simp, H0, HR0⟩
  case round =>
    clear H0 HR0 c1 c2
    obtain ⟨k, z, hk, rfl, hz, hI, hRR⟩ := hrel
    by_cases hlt : k < n
    · obtain ⟨p, hp⟩ : ∃ p, n - 1 - k = p := ⟨_, rfl⟩
      obtain rfl : z = (p : Int) := by omega
      have hbit := bit_at hn hb hlt hp
      have hp8 : (p : Int) < 8 := by omega
      obtain ⟨c1, c2⟩ := HH.out k wr hI.out
      have hst := HS.out k wr hI.out hlt
      have hrr := firm_drew HR.out hRR.out
      obtain ⟨fn, tmps, assign, body, hyy, hRd⟩ := HYY.out k _ hst hrr
      generalize bitg n b k = g at *
      have HZ := Bx.mk hz
      clear hst hrr hI hRR hp hz
      gi_wp2
      refine wpIn_region_tail 6 (by kernel_rfl) (by decide +kernel) (by decide +kernel) ?_
      simp only [List.take_succ_cons, List.take_zero, List.drop_succ_cons, List.drop_zero]
      repeat still_step
      refine wpStill_nil ?_
      go_simp
      clear hbit c1 c2
      gi_wp2
      refine hRd.mono ?_
      rintro e W3 (⟨rfl, hI3, hR3⟩ | ⟨rfl, hX3, hR3⟩)
      · have HI3 := Bx.mk hI3
        have HR3 := Bx.mk hR3
        clear hI3 hR3
        gi_wp2
        go_roundw
        case rel => exact ⟨k + 1, (p : Int) - 1, by omega, by go_num, by have := HZ.out; omega, HI3, HR3⟩
        case measure => (simp [intOf]) <;> omega
      · gi_wp2
        refine bodyPost_ret (results_none rfl _ _ _) rfl ?_
        exact ⟨⟨_, rfl⟩, .inr ⟨hX3, hR3⟩⟩
    · obtain rfl : k = n := by omega
      have hfin := HF.out wr hI.out
      have HFIN := Bx.mk hfin
      obtain rfl : z = -1 := by omega
      clear hfin hI hz
      gi_wp2
      go_end0
      exact ⟨⟨_, rfl⟩, .inl ⟨HFIN.out, hRR.out⟩⟩
end Go.Proofs.Ytpidjekabnnmcaa.wn
