/-
  Given for the seat's laws: the contracts of fits, New, Reload. No condition but those of the theorems.
-/
import Derived.Test.YtpidjekabnnmcaaHTake
namespace Go.Proofs.Ytpidjekabnnmcaa.hp
open Go.RowKit mem find pb
set_option linter.unusedVariables false

def wth (n m : Int) : Bool := decide (1 ≤ n) && decide (n ≤ m)
def fitb (d : CfD) : Bool := decide ((d.ps.length : Int) ≤ 16) && wth d.fails 8 && wth d.cool 1000 && wth d.probe 1000
theorem fitb_t {d : CfD} : fitb d = true ↔ d.ps.length ≤ 16 ∧ 1 ≤ d.fails ∧ d.fails ≤ 8 ∧ 1 ≤ d.cool ∧ d.cool ≤ 1000 ∧ 1 ≤ d.probe ∧ d.probe ≤ 1000 := by
  unfold fitb wth
  simp
  omega
theorem within_any (n m : Int) (w : World) : Calls Try.prog 43 #[.int .i64 n, .int .i64 m] w fun e w' => e = .returned (.bool (wth n m)) ∧ w = w' := by
  unfold wth
  by_cases h1 : 1 ≤ n
  · go_enter Try.func43, Try.ntmps43
    go_wp2
    all_goals
      go_ret
      refine ⟨?_, rfl⟩
      simp [h1]
  · go_enter Try.func43, Try.ntmps43
    go_wp2
    all_goals
      go_ret
      refine ⟨?_, rfl⟩
      simp
      omega
set_option maxHeartbeats 2000000 in
theorem fits_any (d : CfD) (w : World) : Calls Try.prog 27 #[d.v] w fun e w' => e = .returned (.bool (fitb d)) ∧ Below w.heap.size w w' := by
  have hb0 : Below w.heap.size w (w.alloc (.cells #[d.x0, .int .i64 d.l0, .int .i64 d.l1, .int .i64 d.l2, .int .i64 d.l3, .int .i64 d.l4, .int .i64 d.l5, .int .i64 d.l6, .int .i64 d.l7, .int .i64 d.fails, .int .i64 d.cool, .int .i64 d.probe, d.x12, .slice d.A d.ps.length d.c, d.x14, d.x15] 29)) := (Below.refl _ w).alloc (Nat.le_refl _) _
  obtain ⟨k0, k1, k2, k3, k4, k5, k6, k7, k8, k9, k10, k11, k12, k13, k14, k15⟩ := cf_box w d
  have HB := bk.Bx.mk hb0
  have hsz : (w.alloc (.cells #[d.x0, .int .i64 d.l0, .int .i64 d.l1, .int .i64 d.l2, .int .i64 d.l3, .int .i64 d.l4, .int .i64 d.l5, .int .i64 d.l6, .int .i64 d.l7, .int .i64 d.fails, .int .i64 d.cool, .int .i64 d.probe, d.x12, .slice d.A d.ps.length d.c, d.x14, d.x15] 29)).heap.size = w.heap.size + 1 := by simp
  generalize hw1 : w.alloc (.cells #[d.x0, .int .i64 d.l0, .int .i64 d.l1, .int .i64 d.l2, .int .i64 d.l3, .int .i64 d.l4, .int .i64 d.l5, .int .i64 d.l6, .int .i64 d.l7, .int .i64 d.fails, .int .i64 d.cool, .int .i64 d.probe, d.x12, .slice d.A d.ps.length d.c, d.x14, d.x15] 29) = w1 at *
  have q1 : w1.cell? ⟨w.heap.size, 1, none⟩ = some (.int .i64 d.l0) := k1
  have q2 : w1.cell? ⟨w.heap.size, 2, none⟩ = some (.int .i64 d.l1) := k2
  have q3 : w1.cell? ⟨w.heap.size, 3, none⟩ = some (.int .i64 d.l2) := k3
  have q4 : w1.cell? ⟨w.heap.size, 4, none⟩ = some (.int .i64 d.l3) := k4
  have q5 : w1.cell? ⟨w.heap.size, 5, none⟩ = some (.int .i64 d.l4) := k5
  have q6 : w1.cell? ⟨w.heap.size, 6, none⟩ = some (.int .i64 d.l5) := k6
  have q7 : w1.cell? ⟨w.heap.size, 7, none⟩ = some (.int .i64 d.l6) := k7
  have q8 : w1.cell? ⟨w.heap.size, 8, none⟩ = some (.int .i64 d.l7) := k8
  have q9 : w1.cell? ⟨w.heap.size, 9, none⟩ = some (.int .i64 d.fails) := k9
  have q10 : w1.cell? ⟨w.heap.size, 10, none⟩ = some (.int .i64 d.cool) := k10
  have q11 : w1.cell? ⟨w.heap.size, 11, none⟩ = some (.int .i64 d.probe) := k11
  have q13 : w1.cell? ⟨w.heap.size, 13, none⟩ = some (.slice d.A d.ps.length d.c) := k13
  have HW := bk.Bx.mk hw1
  clear k0 k1 k2 k3 k4 k5 k6 k7 k8 k9 k10 k11 k12 k13 k14 k15 hb0 hw1
  obtain ⟨v, hv⟩ : ∃ v, v = fitb d := ⟨_, rfl⟩
  rw [← hv]
  unfold fitb at hv
  have W1 := bk.Bx.mk (within_any d.fails 8)
  have W2 := bk.Bx.mk (within_any d.cool 1000)
  have W3 := bk.Bx.mk (within_any d.probe 1000)
  generalize wth d.fails 8 = b1 at *
  generalize wth d.cool 1000 = b2 at *
  generalize wth d.probe 1000 = b3 at *
  have HV := bk.Bx.mk hv
  clear hv
  have hbz : Below w.heap.size w (w1.alloc (.cells #[.int .i64 d.l0, .int .i64 d.l1, .int .i64 d.l2, .int .i64 d.l3, .int .i64 d.l4, .int .i64 d.l5, .int .i64 d.l6, .int .i64 d.l7, .int .i64 d.fails, .int .i64 d.cool, .int .i64 d.probe] 23)) := HB.out.alloc HB.out.size _
  have HBZ := bk.Bx.mk hbz
  have hbl : w.heap.size < w1.heap.size := by omega
  have hlm : Lies (w1.alloc (.cells #[.int .i64 d.l0, .int .i64 d.l1, .int .i64 d.l2, .int .i64 d.l3, .int .i64 d.l4, .int .i64 d.l5, .int .i64 d.l6, .int .i64 d.l7, .int .i64 d.fails, .int .i64 d.cool, .int .i64 d.probe] 23)) (w.heap.size + 1) 23 #[.int .i64 d.l0, .int .i64 d.l1, .int .i64 d.l2, .int .i64 d.l3, .int .i64 d.l4, .int .i64 d.l5, .int .i64 d.l6, .int .i64 d.l7, .int .i64 d.fails, .int .i64 d.cool, .int .i64 d.probe] := by rw [← hsz]; exact Lies.new w1 23 #[.int .i64 d.l0, .int .i64 d.l1, .int .i64 d.l2, .int .i64 d.l3, .int .i64 d.l4, .int .i64 d.l5, .int .i64 d.l6, .int .i64 d.l7, .int .i64 d.fails, .int .i64 d.cool, .int .i64 d.probe]
  have m8 := hlm.cell 8
  have m9 := hlm.cell 9
  have m10 := hlm.cell 10
  simp only [List.getElem?_toArray, List.getElem?_cons_succ, List.getElem?_cons_zero] at m8 m9 m10
  clear hbz HB hsz hlm
  by_cases h16 : (d.ps.length : Int) ≤ 16
  · go_enter Try.func27, Try.ntmps27
    go_wp2_with fail
    rw [HW.out]
    generalize w1.alloc (.cells #[.int .i64 d.l0, .int .i64 d.l1, .int .i64 d.l2, .int .i64 d.l3, .int .i64 d.l4, .int .i64 d.l5, .int .i64 d.l6, .int .i64 d.l7, .int .i64 d.fails, .int .i64 d.cool, .int .i64 d.probe] 23) = w2 at *
    clear q1 q2 q3 q4 q5 q6 q7 q8 q9 q10 q11 q13 HW
    refine (W1.out _).mono ?_
    rintro e w' ⟨rfl, rfl⟩
    cases b1 with
    | false =>
      go_wp2_with fail
      go_ret
      exact ⟨by rw [HV.out]; simp, HBZ.out⟩
    | true =>
      go_wp2_with fail
      refine (W2.out _).mono ?_
      rintro e w' ⟨rfl, rfl⟩
      cases b2 with
      | false =>
        go_wp2_with fail
        go_ret
        exact ⟨by rw [HV.out]; simp, HBZ.out⟩
      | true =>
        go_wp2_with fail
        refine (W3.out _).mono ?_
        rintro e w' ⟨rfl, rfl⟩
        go_wp2_with fail
        go_ret
        exact ⟨by rw [HV.out]; simp [h16], HBZ.out⟩
  · go_enter Try.func27, Try.ntmps27
    go_wp2_with fail
    go_ret
    refine ⟨by rw [HV.out]; simp; omega, ?_⟩
    first | exact HBZ.out | (rw [HW.out]; exact HBZ.out)

/-! ### New -/
def HD.new (d : CfD) : HD := HD.take ⟨0, 0, 0, [], 0, d.probe, []⟩ d
/-- what New leaves -/
structure NewPost (d : CfD) (w : World) (e : Ending) (w' : World) : Prop where
  ex : ∃ r A' c' q bs', e = .returned (.tuple #[bp r, .int .i64 0]) ∧ Hx w' (fun g => w.heap.size ≤ g) r (HD.new d) A' c' q bs'
  below : Below w.heap.size w w'
set_option maxRecDepth 100000 in
set_option maxHeartbeats 4000000 in
theorem new_bad (d : CfD) (w : World) (hf : fitb d = false) : Calls Try.prog 20 #[d.v] w fun e w' => e = .returned (.tuple #[.pointer none, .int .i64 2]) ∧ Below w.heap.size w w' := by
  have hb0 : Below w.heap.size w (w.alloc (.cells #[d.x0, .int .i64 d.l0, .int .i64 d.l1, .int .i64 d.l2, .int .i64 d.l3, .int .i64 d.l4, .int .i64 d.l5, .int .i64 d.l6, .int .i64 d.l7, .int .i64 d.fails, .int .i64 d.cool, .int .i64 d.probe, d.x12, .slice d.A d.ps.length d.c, d.x14, d.x15] 29)) := (Below.refl _ w).alloc (Nat.le_refl _) _
  have HC := bk.Bx.mk (cf_box w d)
  have HB := bk.Bx.mk hb0
  have HFI := bk.Bx.mk (fun W => fits_any d W)
  rw [hf] at HFI
  have HPN : bk.Bx (∀ W, Calls Try.prog 39 #[.int .i64 d.probe] W fun e w' => ∃ (p : Value) (v : Int), e = .returned (.tuple #[p, .int .i64 v]) ∧ Below W.heap.size W w') := ⟨fun W => by
    by_cases h1 : 1 ≤ d.probe ∧ d.probe ≤ 1000
    · exact (pl.new_ok d.probe W h1.1 h1.2).mono fun e w' hh => ⟨_, _, hh.1, hh.2.below⟩
    · exact (pl.new_no d.probe W (by omega)).mono fun e w' hh => ⟨_, _, hh.1, by rw [← hh.2]; exact Below.refl _ _⟩⟩
  clear hb0 hf
  generalize hw1 : w.alloc (.cells #[d.x0, .int .i64 d.l0, .int .i64 d.l1, .int .i64 d.l2, .int .i64 d.l3, .int .i64 d.l4, .int .i64 d.l5, .int .i64 d.l6, .int .i64 d.l7, .int .i64 d.fails, .int .i64 d.cool, .int .i64 d.probe, d.x12, .slice d.A d.ps.length d.c, d.x14, d.x15] 29) = w1 at *
  have q11 : w1.cell? ⟨w.heap.size, 11, none⟩ = some (.int .i64 d.probe) := HC.out.c11
  have HW := bk.Bx.mk hw1
  clear hw1
  go_enter Try.func20, Try.ntmps20
  go_wp2_with fail
  rw [HW.out]
  refine (HPN.out _).mono ?_
  rintro e w2 ⟨p, v, rfl, hb2⟩
  have hc2 := HC.out.of_same (hb2.block _ HC.out.lt)
  obtain ⟨k0, k1, k2, k3, k4, k5, k6, k7, k8, k9, k10, k11, k12, k13, k14, k15⟩ := hc2
  have HB2 := bk.Bx.mk (HB.out.trans (hb2.mono HB.out.size))
  clear hb2 HPN q11 HB HW HC
  go_wp2_with fail
  refine (HFI.out _).mono ?_
  rintro e w3 ⟨rfl, hb3⟩
  have HB3 := bk.Bx.mk (HB2.out.trans (hb3.mono HB2.out.size))
  clear hb3 HFI HB2 k0 k1 k2 k3 k4 k5 k6 k7 k8 k9 k10 k11 k12 k13 k14 k15
  go_wp2_with fail
  go_ret2
  exact ⟨rfl, HB3.out⟩
set_option maxRecDepth 100000 in
set_option maxHeartbeats 4000000 in
theorem new_good (d : CfD) (w : World) (hf : fitb d = true) (hp : PasAt w (fun g => g < w.heap.size) d.A d.ps) : Calls Try.prog 20 #[d.v] w (NewPost d w) := by
  have hb0 : Below w.heap.size w (w.alloc (.cells #[d.x0, .int .i64 d.l0, .int .i64 d.l1, .int .i64 d.l2, .int .i64 d.l3, .int .i64 d.l4, .int .i64 d.l5, .int .i64 d.l6, .int .i64 d.l7, .int .i64 d.fails, .int .i64 d.cool, .int .i64 d.probe, d.x12, .slice d.A d.ps.length d.c, d.x14, d.x15] 29)) := (Below.refl _ w).alloc (Nat.le_refl _) _
  have hft := fitb_t.1 hf
  have HC := bk.Bx.mk (cf_box w d)
  have HB := bk.Bx.mk hb0
  have HFI := bk.Bx.mk (fun W => fits_any d W)
  rw [hf] at HFI
  have HPN := bk.Bx.mk (fun W => pl.new_ok d.probe W (by omega) (by omega))
  have HP := bk.Bx.mk hp
  have HFT := bk.Bx.mk hft
  clear hb0 hf hft hp
  generalize hw1 : w.alloc (.cells #[d.x0, .int .i64 d.l0, .int .i64 d.l1, .int .i64 d.l2, .int .i64 d.l3, .int .i64 d.l4, .int .i64 d.l5, .int .i64 d.l6, .int .i64 d.l7, .int .i64 d.fails, .int .i64 d.cool, .int .i64 d.probe, d.x12, .slice d.A d.ps.length d.c, d.x14, d.x15] 29) = w1 at *
  have q11 : w1.cell? ⟨w.heap.size, 11, none⟩ = some (.int .i64 d.probe) := HC.out.c11
  have HW := bk.Bx.mk hw1
  clear hw1
  go_enter Try.func20, Try.ntmps20
  go_wp2_with fail
  rw [HW.out]
  refine (HPN.out _).mono ?_
  rintro e w2 ⟨rfl, hn2⟩
  have hb2 := hn2.below
  have HN2 := bk.Bx.mk hn2
  have hc2 := HC.out.of_same (hb2.block _ HC.out.lt)
  have HC2 := bk.Bx.mk hc2
  obtain ⟨k0, k1, k2, k3, k4, k5, k6, k7, k8, k9, k10, k11, k12, k13, k14, k15⟩ := hc2
  have HB2 := bk.Bx.mk (HB.out.trans (hb2.mono HB.out.size))
  have hqs : w.heap.size < w1.heap.size := HC.out.lt
  have HQS := bk.Bx.mk hqs
  clear hb2 HPN q11 HB HW HC hn2 hqs
  go_wp2_with fail
  refine (HFI.out _).mono ?_
  rintro e w3 ⟨rfl, hb3⟩
  have HB3 := bk.Bx.mk (HB2.out.trans (hb3.mono HB2.out.size))
  have hpn3 := HN2.out.pn.below hb3
  have hc3 := HC2.out.of_same (hb3.block _ HC2.out.lt)
  clear k0 k1 k2 k3 k4 k5 k6 k7 k8 k9 k10 k11 k12 k13 k14 k15
  obtain ⟨k0, k1, k2, k3, k4, k5, k6, k7, k8, k9, k10, k11, k12, k13, k14, k15⟩ := hc3
  have hcl : w.heap.size < w3.heap.size := by have := HQS.out; have := HN2.out.below.size; have := hb3.size; omega
  have hpw : w1.heap.size ≤ w3.heap.size := by have := HN2.out.below.size; have := hb3.size; omega
  -- the table before take
  have hl4 := Lies.new w3 35 #[bp w3.heap.size, .int .i64 0, .int .i64 0, .int .i64 0, .slice none 0 0, .int .i64 0, bp w1.heap.size]
  have hb4 : Below w3.heap.size w3 (w3.alloc (.cells #[bp w3.heap.size, .int .i64 0, .int .i64 0, .int .i64 0, .slice none 0 0, .int .i64 0, bp w1.heap.size] 35)) := (Below.refl _ w3).alloc (Nat.le_refl _) _
  have hx5 : Hx (w3.alloc (.cells #[bp w3.heap.size, .int .i64 0, .int .i64 0, .int .i64 0, .slice none 0 0, .int .i64 0, bp w1.heap.size] 35)) (fun g => w1.heap.size ≤ g) w3.heap.size ⟨0, 0, 0, [], 0, d.probe, []⟩ none 0 w1.heap.size [] :=
    ⟨hl4, World.ownsRow_nil _ _ _ _, fun g e => (by cases e), ⟨rfl, List.nodup_nil, fun i b x hb2 => (by simp at hb2), fun b hb2 => (by cases hb2)⟩, hpn3.below hb4, hpw⟩
  have hb5 : Below w.heap.size w (w3.alloc (.cells #[bp w3.heap.size, .int .i64 0, .int .i64 0, .int .i64 0, .slice none 0 0, .int .i64 0, bp w1.heap.size] 35)) := HB3.out.trans (hb4.mono HB3.out.size)
  have hpa : PasAt (w3.alloc (.cells #[bp w3.heap.size, .int .i64 0, .int .i64 0, .int .i64 0, .slice none 0 0, .int .i64 0, bp w1.heap.size] 35)) (fun g => g < (w3.alloc (.cells #[bp w3.heap.size, .int .i64 0, .int .i64 0, .int .i64 0, .slice none 0 0, .int .i64 0, bp w1.heap.size] 35)).heap.size ∧ ¬ w1.heap.size ≤ g) d.A d.ps := (HP.out.keep fun g hg => hb5.block g hg).weak fun g hg => ⟨Nat.lt_of_lt_of_le hg hb5.size, by have := HQS.out; omega⟩
  have KT : bk.Bx (Calls Try.prog 29 #[bp w3.heap.size, d.v] (w3.alloc (.cells #[bp w3.heap.size, .int .i64 0, .int .i64 0, .int .i64 0, .slice none 0 0, .int .i64 0, bp w1.heap.size] 35)) fun e w' => e = .returned (.tuple #[]) ∧ (∃ A' c' bs', Hx w' (fun g => w.heap.size ≤ g) w3.heap.size (HD.new d) A' c' w1.heap.size bs') ∧ Below w.heap.size w w') := ⟨by
    have h16 := HFT.out.1
    refine (take_any hx5 d hpa h16 (by simp) (by simp) (by simp) (by simp) (fun x hx => by cases hx)).mono ?_
    rintro e w' ⟨he, ⟨A', c', bs', hx⟩, hk⟩
    refine ⟨he, ⟨A', c', bs', hx.mono fun g hg => ?_⟩, ?_⟩
    · rcases hg with h | h
      · have := HQS.out; omega
      · have := hb5.size; omega
    · exact ((Keep.of_below hb5 (fun g => w1.heap.size ≤ g)).trans (hk.mono hb5.size (fun _ _ e => e))).below (Nat.le_refl _) (fun g hg hs => by have := HQS.out; omega)⟩
  clear hl4 hb4 hx5 hb5 hpa hpn3 hb3 HN2 HC2 HB2 HB3 HP HFT HFI
  go_wp2_with fail
  refine KT.out.mono ?_
  rintro e w7 ⟨rfl, ⟨A', c', bs', hx⟩, hb7⟩
  have HX := bk.Bx.mk hx
  have HB7 := bk.Bx.mk hb7
  clear hx hb7 KT k0 k1 k2 k3 k4 k5 k6 k7 k8 k9 k10 k11 k12 k13 k14 k15
  go_wp2_with fail
  go_ret2
  exact ⟨⟨_, A', c', _, bs', rfl, HX.out⟩, HB7.out⟩

/-! ### Reload -/
section
variable {w : World} {S : Nat → Prop} {r c q : Nat} {D : HD} {A : Option Addr} {bs : List Nat}
def HD.reload (D : HD) (d : CfD) : HD := if fitb d then HD.take { D with ev := d.probe } d else D
def rcode (d : CfD) : Int := if fitb d then 0 else 2
/-- what Reload leaves -/
structure RelPost (S : Nat → Prop) (r : Nat) (D' : HD) (q : Nat) (v : Int) (w : World) (e : Ending) (w' : World) : Prop where
  eq : e = .returned (.int .i64 v)
  ex : ∃ A' c' bs', Hx w' (fun g => S g ∨ w.heap.size ≤ g) r D' A' c' q bs'
  keep : Keep w.heap.size S w w'
set_option maxRecDepth 100000 in
set_option maxHeartbeats 4000000 in
theorem reload_any (h : Hx w S r D A c q bs) (hS : ∀ g, S g → g < w.heap.size) (d : CfD) (hp : PasAt w (fun g => g < w.heap.size ∧ ¬ S g) d.A d.ps) (hR : D.R.length ≤ 16) (hQ : D.Q.length ≤ 16) (l0 : 0 ≤ D.last) (l1 : D.last + 16 < 1099511627775) (hqk : ∀ x ∈ D.Q, x.1 ≤ D.last) :
    Calls Try.prog 10 #[bp r, d.v] w (RelPost S r (D.reload d) q (rcode d) w) := by
  have hmix : Try.prog.follows .mixedOrders = true := by kernel_rfl
  have hb0 : Below w.heap.size w (w.alloc (.cells #[d.x0, .int .i64 d.l0, .int .i64 d.l1, .int .i64 d.l2, .int .i64 d.l3, .int .i64 d.l4, .int .i64 d.l5, .int .i64 d.l6, .int .i64 d.l7, .int .i64 d.fails, .int .i64 d.cool, .int .i64 d.probe, d.x12, .slice d.A d.ps.length d.c, d.x14, d.x15] 29)) := (Below.refl _ w).alloc (Nat.le_refl _) _
  have HC := bk.Bx.mk (cf_box w d)
  have h0 := h.below hb0
  have HM := Lib.hid (hmade_yes h0)
  have H0 := bk.Bx.mk h0
  have HB := bk.Bx.mk hb0
  have HP := bk.Bx.mk hp
  have HFI := bk.Bx.mk (fun W => fits_any d W)
  have HR := bk.Bx.mk (And.intro hR (And.intro hQ (And.intro l0 (And.intro l1 hqk))))
  have HHO := bk.Bx.mk h
  clear h h0 hb0 hp hR hQ l0 l1 hqk
  generalize hw1 : w.alloc (.cells #[d.x0, .int .i64 d.l0, .int .i64 d.l1, .int .i64 d.l2, .int .i64 d.l3, .int .i64 d.l4, .int .i64 d.l5, .int .i64 d.l6, .int .i64 d.l7, .int .i64 d.fails, .int .i64 d.cool, .int .i64 d.probe, d.x12, .slice d.A d.ps.length d.c, d.x14, d.x15] 29) = w1 at *
  obtain ⟨k0, k1, k2, k3, k4, k5, k6, k7, k8, k9, k10, k11, k12, k13, k14, k15⟩ := HC.out
  have HW := bk.Bx.mk hw1
  clear hw1
  cases hf : fitb d with
  | false =>
    have e1 : D.reload d = D := by unfold HD.reload; rw [hf]; rfl
    have e2 : rcode d = 2 := by unfold rcode; rw [hf]; rfl
    rw [e1, e2]
    rw [hf] at HFI
    clear e1 e2 hf
    go_enter Try.func10, Try.ntmps10
    go_wp2_with (go_at_call 24; rw [HW.out]; refine HM.out.mono ?_; rintro e w' ⟨rfl, rfl⟩)
    refine (HFI.out _).mono ?_
    rintro e w2 ⟨rfl, hb2⟩
    have hx2 := (H0.out.below hb2).mono (S' := fun g => S g ∨ w.heap.size ≤ g) (fun g hg => .inl hg)
    have HX2 := bk.Bx.mk hx2
    have HK2 := bk.Bx.mk (Keep.of_below (HB.out.trans (hb2.mono HB.out.size)) S)
    clear hx2 hb2 HFI HM H0 HB HP HR HC HW k0 k1 k2 k3 k4 k5 k6 k7 k8 k9 k10 k11 k12 k13 k14 k15
    go_wp2_with fail
    go_ret
    exact ⟨rfl, ⟨_, _, _, HX2.out⟩, HK2.out⟩
  | true =>
    have e1 : D.reload d = HD.take { D with ev := d.probe } d := by unfold HD.reload; rw [hf]; rfl
    have e2 : rcode d = 0 := by unfold rcode; rw [hf]; rfl
    have HFT := bk.Bx.mk (fitb_t.1 hf)
    rw [e1, e2]
    rw [hf] at HFI
    clear e1 e2 hf
    go_enter Try.func10, Try.ntmps10
    go_wp2_with (go_at_call 24; rw [HW.out]; refine HM.out.mono ?_; rintro e w' ⟨rfl, rfl⟩)
    refine (HFI.out _).mono ?_
    rintro e w2 ⟨rfl, hb2⟩
    have hx2 := H0.out.below hb2
    have hc2 := HC.out.of_same (hb2.block _ HC.out.lt)
    have r6 := hx2.hd.cell 6
    simp at r6
    have hbd : Below w2.heap.size w2 w2.drew := (Below.refl _ _).drew
    have hx3 := hx2.below hbd
    have hc3 := hc2.of_same (hbd.block _ hc2.lt)
    have hbw : Below w.heap.size w w2.drew := HB.out.trans ((hb2.trans (hbd.mono hb2.size)).mono HB.out.size)
    have KE : bk.Bx (Calls Try.prog 28 #[bp q, .int .i64 d.probe] w2.drew fun e w' => e = .returned (.int .i64 0) ∧ Hx w' (fun g => S g ∨ w2.heap.size ≤ g) r { D with ev := d.probe } A c q bs ∧ CfAt w' w.heap.size d ∧ Keep w.heap.size S w w' ∧ w2.heap.size ≤ w'.heap.size) := ⟨by
      have ft := HFT.out
      refine (pl.every_ok hx3.pn' (n := d.probe) (by omega) (by omega)).mono ?_
      rintro e w' ⟨he, hd⟩
      refine ⟨he, ?_, ?_, ?_, hd.keep.size⟩
      · exact (hx3.mono (S' := fun g => S g ∨ w2.heap.size ≤ g) (fun g hg => .inl hg)).setPlan (S' := fun g => S g ∨ w2.heap.size ≤ g) (hd.pn.mono (fun g hg => by rcases hg with h1 | h1; exact .inl h1.1; exact .inr h1))
          (hd.keep.mono (Nat.le_refl _) (fun g _ hg => ⟨.inl hg.1, hg.2⟩)) (fun g hg => hg)
      · refine hc3.of_same (hd.keep.block _ hc3.lt ?_)
        intro hs; have := hS _ hs.1; omega
      · exact (Keep.of_below hbw S).trans (hd.keep.mono hbw.size (fun g _ hs => hs.1))⟩
    have KT : bk.Bx (∀ W, Hx W (fun g => S g ∨ w2.heap.size ≤ g) r { D with ev := d.probe } A c q bs → Keep w.heap.size S w W → w2.heap.size ≤ W.heap.size → Calls Try.prog 29 #[bp r, d.v] W fun e w' => e = .returned (.tuple #[]) ∧ RelPost S r (HD.take { D with ev := d.probe } d) q 0 w (.returned (.int .i64 0)) w') := ⟨fun W hx hk hsz => by
      obtain ⟨hR, hQ, l0, l1, hqk⟩ := HR.out
      have hws : w.heap.size ≤ w2.heap.size := (HB.out.trans (hb2.mono HB.out.size)).size
      have hpa : PasAt W (fun g => g < W.heap.size ∧ ¬ (S g ∨ w2.heap.size ≤ g)) d.A d.ps := (HP.out.keep fun g hg => hk.block g hg.1 hg.2).weak fun g hg => ⟨by have := hg.1; omega, by
        rintro (h1 | h1)
        · exact hg.2 h1
        · have := hg.1; omega⟩
      refine (take_any hx d hpa HFT.out.1 hR hQ l0 l1 hqk).mono ?_
      rintro e w' ⟨he, ⟨A', c', bs', hx'⟩, hk'⟩
      refine ⟨he, rfl, ⟨A', c', bs', hx'.mono fun g hg => ?_⟩, ?_⟩
      · rcases hg with (h1 | h1) | h1
        · exact .inl h1
        · exact .inr (by omega)
        · exact .inr (by omega)
      · refine hk.trans ⟨hk'.os, hk'.tape, hk'.output, hk'.size, fun g hg hs => hk'.block g (by omega) ?_⟩
        rintro (h1 | h1)
        · exact hs h1
        · omega⟩
    have hc2' := hc2
    clear hx2 hx3 hc3 hbw hbd HFI HM H0 HB HP HR HC HW k0 k1 k2 k3 k4 k5 k6 k7 k8 k9 k10 k11 k12 k13 k14 k15
    have k11 := hc2.c11
    clear hc2 hc2'
    go_wp2_with fail
    go_still_tail 7, hmix
    change wpList _ _ _ _ _ w2.drew
    generalize w2.drew = w3 at *
    go_wp2_with fail
    refine KE.out.mono ?_
    rintro e w4 ⟨rfl, hx4, hc4, hk4, hz4⟩
    obtain ⟨k0, k1, k2, k3, k4, k5, k6, k7, k8, k9, k10, k11, k12, k13, k14, k15⟩ := hc4
    have KT2 := bk.Bx.mk (KT.out w4 hx4 hk4 hz4)
    clear hx4 hk4 hz4 KE KT
    go_wp2_with fail
    refine KT2.out.mono ?_
    rintro e w5 ⟨rfl, hf5⟩
    have HF5 := bk.Bx.mk hf5
    clear hf5 KT2 k0 k1 k2 k3 k4 k5 k6 k7 k8 k9 k10 k11 k12 k13 k14 k15
    go_wp2_with fail
    go_ret
    exact HF5.out
end
end Go.Proofs.Ytpidjekabnnmcaa.hp
