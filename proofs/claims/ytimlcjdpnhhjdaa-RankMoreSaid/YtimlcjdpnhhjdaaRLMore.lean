/-
  Given for the seat's laws: the law RankMore answers true over whatever memory. No condition but those of the theorems.
-/
import Derived.Test.YtimlcjdpnhhjdaaRSet
namespace Go.Proofs.Ytimlcjdpnhhjdaa.rk
open Go.RowKit mem sp
set_option linter.unusedVariables false

set_option maxHeartbeats 1500000 in
set_option maxRecDepth 100000 in
theorem more_any {w : World} {K A : Option Addr} {k ck n c : Nat} {key : Str} {l : List Rn} (hk : Spell w (fun g => g < w.heap.size) K k ck key) (hl : l.length = n) (hr : RunsAt w (fun g => g < w.heap.size) A l) (hc : n ≤ c) (hn : n < 8796093022208) (z : Int) (more : UInt8) (hwf : ∀ x ∈ l, -9223372036854775808 ≤ x.2) :
    Calls Try.prog 7 #[.slice K k ck, .slice A n c, .int .i64 z, .int .u8 (more.toNat : Int)] w (True_ w) := by
  have HAW := Bx.mk (awake_any w)
  unfold True_ at HAW
  have HG : Bx (∀ W, Below w.heap.size w W → Calls Try.prog 18 #[.slice K k ck, .slice A n c] W fun e w' => e = .returned (.bool (gr k (nms l))) ∧ Below W.heap.size W w') := ⟨fun W hW => lgreat_any hl (hr.below hW (fun _ h => h)) (fun g hg => Nat.lt_of_lt_of_le hg hW.size) hn⟩
  obtain ⟨gg, hgg⟩ : ∃ gg, gr k (nms l) = gg := ⟨_, rfl⟩
  rw [hgg] at HG
  cases gg with
  | true =>
    clear hk hl hr hgg
    go_enter Try.func7, Try.ntmps7
    go_wp2_with fail
    refine HAW.out.mono ?_
    rintro e w1 ⟨rfl, hb1⟩
    have HB1 := Bx.mk hb1
    clear hb1
    go_wp2_with fail
    refine (HG.out _ HB1.out).mono ?_
    rintro e w2 ⟨rfl, hb2⟩
    have HB2 := Bx.mk (HB1.out.trans (hb2.mono HB1.out.size))
    clear hb2
    go_wp2
    go_ret
    exact ⟨rfl, HB2.out⟩
  | false =>
    obtain ⟨hk100, hn16, hx40⟩ := gr_no hgg
    rw [nms_len, hl] at hn16
    by_cases h0 : n = 0
    · subst h0
      clear hk hl hr hgg hx40
      go_enter Try.func7, Try.ntmps7
      go_wp2_with fail
      refine HAW.out.mono ?_
      rintro e w1 ⟨rfl, hb1⟩
      have HB1 := Bx.mk hb1
      clear hb1
      go_wp2_with fail
      refine (HG.out _ HB1.out).mono ?_
      rintro e w2 ⟨rfl, hb2⟩
      have HB2 := Bx.mk (HB1.out.trans (hb2.mono HB1.out.size))
      clear hb2
      go_wp2
      go_ret
      exact ⟨rfl, HB2.out⟩
    · have hne : ((n : Int) == 0) = false := beq_eq_false_iff_ne.2 (by omega)
      obtain ⟨q, hq, hqn⟩ := q_small z (show 0 < n by omega)
      obtain ⟨g, off, rfl, hg, hcs⟩ := hr.ex (by omega)
      have HLO : Bx (∀ W, Below w.heap.size w W → Calls Try.prog 19 #[.slice K k ck, .slice (some ⟨g, off, none⟩) n c] W (OrdTo (SR key l) n W)) := ⟨fun W hW => lorder_any (hk.below hW (fun _ h => h)) (fun g hg => Nat.lt_of_lt_of_le hg hW.size) hl (hr.below hW (fun _ h => h)) (fun g hg => Nat.lt_of_lt_of_le hg hW.size) hn16 (fun x hx => by have := hx40 x hx; omega)⟩
      have HK : Bx (∀ W, Below w.heap.size w W → Spell W (fun g => g < w.heap.size) K k ck key) := ⟨fun W hW => hk.below hW (fun _ h => h)⟩
      have HR := Bx.mk hr
      have HL := Bx.mk hl
      have HX := Bx.mk hx40
      have hcap : (n : Int) ≤ (c : Int) := by omega
      have q0 : (0 : Int) ≤ (q : Int) := by omega
      have q1 : (q : Int) < (n : Int) := by omega
      clear hk hl hr hgg hx40 h0 hcs
      go_enter Try.func7, Try.ntmps7
      go_wp2_with fail
      refine HAW.out.mono ?_
      rintro e w1 ⟨rfl, hb1⟩
      have HB1 := Bx.mk hb1
      clear hb1
      go_wp2_with fail
      refine (HG.out _ HB1.out).mono ?_
      rintro e w2 ⟨rfl, hb2⟩
      have HB2 := Bx.mk (HB1.out.trans (hb2.mono HB1.out.size))
      clear hb2
      have hmoreb := more.toNat_lt
      obtain ⟨x, hx⟩ : ∃ x, l[q]? = some x := ⟨_, List.getElem?_eq_getElem (by rw [HL.out]; exact hqn)⟩
      have hxlo := hwf x (List.mem_of_getElem? hx)
      -- the copy
      have m0 := MadeX.start w2
      have r0 := (HR.out.below HB2.out (fun _ h => h)).below m0.below (fun g hg => Nat.lt_of_lt_of_le hg HB2.out.size)
      obtain ⟨A2, c2, w3, ap1, m1, -⟩ := m0.app (cm := c) r0 HL.out (n := 0) rfl (by omega)
      rw [Nat.zero_add] at ap1 m1
      rw [List.nil_append] at m1
      obtain ⟨z2, hz2⟩ : ∃ z2, z2 = x.2 + (more.toNat : Int) := ⟨_, rfl⟩
      obtain ⟨g2, rfl, d0, d1, hg2, m2⟩ := m1.set HL.out hx z2
      have AP1 := Bx.mk ap1
      have HB3 := Bx.mk (HB2.out.trans (m1.below.mono HB2.out.size))
      obtain ⟨wt, hwt⟩ : ∃ wt, x.2 = wt := ⟨_, rfl⟩
      have HWT := Bx.mk hwt
      by_cases hbig : 1099511627776 < wt
      · rw [hwt] at d0
        clear m0 r0 ap1 m1 m2 hz2 hx hwf hxlo hwt
        go_wp2_with (first | (at_builtin; refine wpList_append_g rfl _ _ rfl rfl rfl rfl AP1.out ?_))
        go_ret
        exact ⟨rfl, HB3.out⟩
      · have hbz : wt ≤ 1099511627776 := by omega
        have hsum : wt + (more.toNat : Int) = z2 := by rw [hz2, hwt]
        have hlo : -9223372036854775808 ≤ wt := by rw [← hwt]; exact hxlo
        rw [hwt] at d0
        have hl2 : (l.set q (x.1, z2)).length = n := by rw [List.length_set]; exact HL.out
        have bset : Below w2.heap.size w2 (w3.setCell ⟨g2, q * 2 + 1, none⟩ (.int .i64 z2)) := m2.below
        have HB4 := Bx.mk (HB2.out.trans (bset.mono HB2.out.size))
        have HM2 : Bx (∀ W, Below (w3.setCell ⟨g2, q * 2 + 1, none⟩ (.int .i64 z2)).heap.size (w3.setCell ⟨g2, q * 2 + 1, none⟩ (.int .i64 z2)) W → RunsAt W (fun g => w2.heap.size ≤ g ∧ g < W.heap.size) (some ⟨g2, 0, none⟩) (l.set q (x.1, z2))) := ⟨fun W hW => (m2.fresh hW).runs hl2⟩
        have HSM : Bx (∀ j, j < n → j ≠ q → SR key l j = SR key (l.set q (x.1, z2)) j) := ⟨fun j hj hjq => (SR_set hjq (by rw [HL.out]; exact hj)).symm⟩
        have HMO : Bx (most (SR key l q) (SR key (l.set q (x.1, z2)) q)) := ⟨SR_most hx (by rw [hz2]; omega)⟩
        have hx2 : ∀ y ∈ nms (l.set q (x.1, z2)), y.length ≤ 100000 := fun y hy => by
          rw [nms_set hx] at hy
          have := HX.out y hy
          omega
        have HX2 := Bx.mk hx2
        have HL2 := Bx.mk hl2
        clear m0 r0 ap1 m1 m2 hz2 hx hwf hxlo hwt hl2 bset hx2 HR hbig
        go_wp2_with (first | (at_builtin; refine wpList_append_g rfl _ _ rfl rfl rfl rfl AP1.out ?_) | fail)
        clear AP1 d0 d1
        obtain ⟨w4, hw4⟩ : ∃ w4, w4 = w3.setCell ⟨g2, q * 2 + 1, none⟩ (.int .i64 z2) := ⟨_, rfl⟩
        rw [← hw4] at HB4 HM2
        rw [← hw4]
        clear hw4
        refine (HLO.out _ HB4.out).mono ?_
        rintro e w5 ⟨oa, ga, rfl, hoa, hla, hga, hb5⟩
        have HB5 := Bx.mk (HB4.out.trans (hb5.mono HB4.out.size))
        have HOA := Bx.mk hoa
        have HLA := Bx.mk hla
        have HO2 := Bx.mk (lorder_any (k := k) (c := c2) (HK.out w5 HB5.out) (fun g hg => Nat.lt_of_lt_of_le hg HB5.out.size) HL2.out (HM2.out w5 hb5) (fun g hg => hg.2) hn16 HX2.out)
        clear hoa hla hga hb5
        go_wp2_with fail
        refine HO2.out.mono ?_
        rintro e w6 ⟨ob, gb, rfl, hob, hlb, hgb, hb6⟩
        have HB6 := Bx.mk (HB5.out.trans (hb6.mono HB5.out.size))
        have HLA6 := Bx.mk (HLA.out.below hb6 HLA.out.lt)
        have HLB6 := Bx.mk hlb
        have HOB := Bx.mk hob
        have HWO := Bx.mk (wo_same HOA.out hob HSM.out)
        have HSP := Bx.mk (spot_le HOA.out hob hqn HSM.out HMO.out)
        have HW1 := Bx.mk (without_any (c := n) HOA.out.len (RowAt.of_lies (ok := fun x => x = ga) HLA6.out rfl (by simp)) (fun x e => by subst e; exact HLA6.out.lt) (by omega) (fun x hx => by have := HOA.out.mem.1 hx; omega) q false)
        rw [wof_wo] at HW1
        unfold WoTo at HW1
        clear hob hlb hgb hb6 HO2 HLA
        go_wp2_with fail
        refine HW1.out.mono ?_
        rintro e w7 ⟨A7, c7, rfl, hm7⟩
        have HB7 := Bx.mk (HB6.out.trans (hm7.below.mono HB6.out.size))
        have HLA7 := Bx.mk (HLA6.out.below hm7.below HLA6.out.lt)
        have HLB7 := Bx.mk (HLB6.out.below hm7.below HLB6.out.lt)
        have HM7 := Bx.mk hm7
        have HW2 := Bx.mk (without_any (c := n) HOB.out.len (RowAt.of_lies (ok := fun x => x = gb) HLB7.out rfl (by simp)) (fun x e => by subst e; exact HLB7.out.lt) (by omega) (fun x hx => by have := HOB.out.mem.1 hx; omega) q false)
        rw [wof_wo, ← HWO.out] at HW2
        unfold WoTo at HW2
        clear hm7 HW1 HLA6 HLB6
        obtain ⟨r, hr⟩ : ∃ r, wo oa q = r := ⟨_, rfl⟩
        rw [hr] at HW2 HM7
        have hrl : r.length ≤ 1000 := by
          have h1 := wof_len false q oa
          rw [wof_wo, hr] at h1
          have := HOA.out.len
          omega
        rw [hr]
        go_wp2_with fail
        refine HW2.out.mono ?_
        rintro e w8 ⟨A8, c8, rfl, hm8⟩
        have HB8 := Bx.mk (HB7.out.trans (hm8.below.mono HB7.out.size))
        have HLA8 := Bx.mk (HLA7.out.below hm8.below HLA7.out.lt)
        have HLB8 := Bx.mk (HLB7.out.below hm8.below HLB7.out.lt)
        have ra := (HM7.out.fresh hm8.below).row (by rw [nats_len])
        have rb := hm8.row (by rw [nats_len])
        rw [nats_intv] at ra rb
        have HS := Bx.mk ((same_any (c := c7) (d := c8) (show (r.map fun x : Nat => (x : Int)).length = r.length by rw [List.length_map]) ra (fun _ h => h) (show (r.map fun x : Nat => (x : Int)).length = r.length by rw [List.length_map]) rb (fun _ h => h) (by omega)).mono (fun e w' h => (⟨by rw [h.1]; simp, h.2⟩ : e = .returned (.bool true) ∧ Below w8.heap.size w8 w')))
        clear hm8 ra rb HW2 HLA7 HLB7 HM7
        go_wp2_with fail
        refine HS.out.mono ?_
        rintro e w9 ⟨rfl, hb9⟩
        have HB9 := Bx.mk (HB8.out.trans (hb9.mono HB8.out.size))
        have la9 := HLA8.out.below hb9 HLA8.out.lt
        have lb9 := HLB8.out.below hb9 HLB8.out.lt
        have HPA := Bx.mk (place_any (c := n) HOA.out.len (RowAt.of_lies (ok := fun x => x = ga) la9 rfl (by simp)) (by omega) (HOA.out.mem.2 hqn))
        have HPB := Bx.mk (place_any (c := n) HOB.out.len (RowAt.of_lies (ok := fun x => x = gb) lb9 rfl (by simp)) (by omega) (HOB.out.mem.2 hqn))
        have hsp := HSP.out
        generalize spot oa q = sa at HPA hsp
        generalize spot ob q = sb at HPB hsp
        have hspz : (sb : Int) ≤ (sa : Int) := by omega
        clear hb9 la9 lb9 HS hsp
        go_wp2_with fail
        refine HPB.out.mono ?_
        rintro e wx ⟨rfl, rfl⟩
        go_wp2_with fail
        refine HPA.out.mono ?_
        rintro e wx ⟨rfl, rfl⟩
        go_wp2_with fail
        refine HPB.out.mono ?_
        rintro e wx ⟨rfl, rfl⟩
        go_wp2
        go_ret
        exact ⟨by simp, HB9.out⟩
theorem more_at {w : World} {K A : Option Addr} {k ck c : Nat} {bs : List Int} {l : List Rn} (hk : Src w (fun g => g < w.heap.size) K k ck bs) (hr : RunsAt w (fun g => g < w.heap.size) A l) (hc : l.length ≤ c) (hn : l.length < 8796093022208) (hwf : ∀ x ∈ l, -9223372036854775808 ≤ x.2) (z : Int) {m : Int} (hm : 0 ≤ m ∧ m < 256) :
    Calls Try.prog 7 #[.slice K k ck, .slice A l.length c, .int .i64 z, .int .u8 m] w (True_ w) := by
  obtain ⟨key, rfl⟩ := ints_of hk.rng
  have hz : m = ((UInt8.ofNat m.toNat).toNat : Int) := by simp; omega
  rw [hz]
  exact more_any hk rfl hr hc hn z _ hwf
end Go.Proofs.Ytimlcjdpnhhjdaa.rk
