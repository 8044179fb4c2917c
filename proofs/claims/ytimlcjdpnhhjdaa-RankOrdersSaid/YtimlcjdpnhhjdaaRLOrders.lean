/-
  Given for the seat's laws: the law RankOrders answers true over whatever memory. No condition but those of the theorems.
-/
import Derived.Test.YtimlcjdpnhhjdaaRROrd
import Derived.Test.YtimlcjdpnhhjdaaROrder
import Derived.Test.YtimlcjdpnhhjdaaRLib1
import Derived.Deep.RegionLaw
import Derived.BigRegion
import Derived.Laws.OwnMore
namespace Go.Proofs.Ytimlcjdpnhhjdaa.rk
open Go.RowKit mem sp
set_option linter.unusedVariables false

theorem nats_intv' (o : List Nat) : nats o = intv (o.map fun x : Nat => (x : Int)) := by simp [nats, intv]
theorem add_at' (g off j : Nat) : (⟨g, off, none⟩ : Addr).add j = ⟨g, off + j, none⟩ := by
  unfold Addr.add
  split
  · next h => subst h; rfl
  · rfl
theorem MadeR.copy {t sl : TypeId} {z : Value} {by_ : Nat} (K : Kind t sl z by_) {w : World} {ok : Nat → Prop} {A : Option Addr} {n c : Nat} {vs : List Value} (h : RowAt w ok A vs) (hok : ∀ g, ok g → g < w.heap.size) (hn : vs.length = n) (hone : ∀ u ∈ vs, u.oneCell' = true) (hz : A = none → n = 0 ∧ c = 0) (hb : n ≤ 1000) (hby : by_ ≤ 16) :
    ∃ A' c' w2, (Builtin.append_ #[sl, sl] sl #[.slice (some ⟨w.heap.size, 0, none⟩) (0 : Nat) 0, .slice A n c]).run Try.prog (w.alloc (.cells #[] t)) = .ok (.slice A' n c') w2 ∧ MadeR t w w2 (.slice A' n c') vs := by
  obtain ⟨i0, hinf, hz0, hz1, hz2⟩ := info_parts K.info
  have h3 : (w.alloc (.cells #[] t)).ownsRow w.heap.size t 1 (.slice (some ⟨w.heap.size, 0, none⟩) (0 : Nat) 0) 0 [] := ⟨rfl, .inr ⟨w.heap.size, 0, #[], rfl, Nat.le_refl _, heap_alloc_new w _, Nat.le_refl _, by unfold maxLen; omega, rfl, rfl⟩⟩
  have hal : Below w.heap.size w (w.alloc (.cells #[] t)) := (Below.refl _ _).alloc (Nat.le_refl _) _
  cases A with
  | none =>
    obtain ⟨rfl, rfl⟩ := hz rfl
    obtain rfl : vs = [] := List.length_eq_zero_iff.1 hn
    exact ⟨_, _, _, run_append_owned_none (P := Try.prog) (w.alloc (.cells #[] t)) w.heap.size sl sl t i0 1 K.sl hinf _ 0 [] h3, h3, hal⟩
  | some a =>
    have hc : ∀ j u, vs[j]? = some u → (w.alloc (.cells #[] t)).cell? (a.add j) = some u := fun j u hu => by
      obtain ⟨g, off, e, ho, hcc⟩ := h.ex (by have := (List.getElem?_eq_some_iff.1 hu).1; omega)
      cases e
      rw [add_at']
      exact (World.cell?_of_block (hal.block g (hok g ho))).trans (hcc j u hu)
    obtain ⟨v', w', hr, ho, hg, _⟩ := run_append_own (P := Try.prog) (w.alloc (.cells #[] t)) w.heap.size sl sl t i0 z 1 by_ K.sl hinf hz0 hz1 hz2 K.z (by decide) _ 0 [] h3 a n c vs (by rw [hn, Nat.mul_one]) hc hone (by unfold maxLen; omega) (by
      rw [Nat.zero_add]
      have := Nat.mul_le_mul hb hby
      omega) hal.size
    rw [Nat.zero_add, List.nil_append] at ho
    obtain ⟨A', c', rfl⟩ := rown_form ho
    exact ⟨A', c', w', hr, by rw [hn]; exact ho, hal.grown hg hal.size (fun k hk => (rown_lt h3 hk).1)⟩

set_option maxHeartbeats 4000000 in
set_option maxRecDepth 100000 in
theorem orders_any {w : World} {K B C : Option Addr} {k ck n c q cq : Nat} {key : Str} {l : List Str} {ws : List Int} (hk : Spell w (fun g => g < w.heap.size) K k ck key) (hl : l.length = n) (hr : RowAt w (fun g => g < w.heap.size) B (strs l)) (hB : B = none → n = 0 ∧ c = 0)
    (hw : ws.length = q) (hwr : RowAt w (fun g => g < w.heap.size) C (intv ws)) (hC : C = none → q = 0 ∧ cq = 0) :
    Calls Try.prog 4 #[.slice K k ck, .slice B n c, .slice C q cq] w (True_ w) := by
  have HG : Bx (Calls Try.prog 9 #[.slice K k ck, .slice B n c] w fun e w' => e = .returned (.bool (gr k l)) ∧ Below w.heap.size w w') := ⟨(great_any hl hr).mono fun e w' h => ⟨h.1, by rw [h.2]; exact Below.refl _ _⟩⟩
  obtain ⟨gg, hgg⟩ : ∃ gg, gr k l = gg := ⟨_, rfl⟩
  rw [hgg] at HG
  cases gg with
  | true =>
    clear hk hl hr hB hw hwr hC hgg
    go_enter Try.func4, Try.ntmps4
    go_wp2_with fail
    refine HG.out.mono ?_
    rintro e w2 ⟨rfl, hb2⟩
    have HB2 := Bx.mk hb2
    clear hb2
    go_wp2
    go_ret
    exact ⟨rfl, HB2.out⟩
  | false =>
    obtain ⟨hk100, hn16, hx40⟩ := gr_no hgg
    rw [hl] at hn16
    by_cases hq : 30 < q
    · have hq1 : (30 : Int) < (q : Int) := by omega
      clear hk hl hr hB hw hwr hC hgg hx40 hk100 hn16 hq
      go_enter Try.func4, Try.ntmps4
      go_wp2_with fail
      refine HG.out.mono ?_
      rintro e w2 ⟨rfl, hb2⟩
      have HB2 := Bx.mk hb2
      clear hb2
      go_wp2
      go_ret
      exact ⟨rfl, HB2.out⟩
    · have hq1 : (q : Int) ≤ 30 := by omega
      have HK : Bx (∀ W, Below w.heap.size w W → Spell W (fun g => g < w.heap.size) K k ck key) := ⟨fun W hW => hk.below hW (fun _ h => h)⟩
      have HR := Bx.mk hr
      have HWR := Bx.mk hwr
      have HL := Bx.mk hl
      have HW := Bx.mk hw
      have HX := Bx.mk hx40
      have HBN := Bx.mk hB
      have HCN := Bx.mk hC
      obtain ⟨N, hN⟩ : ∃ N, min n q = N := ⟨_, rfl⟩
      have HNN := Bx.mk hN
      have HN16 : Bx (N ≤ 16) := ⟨by omega⟩
      have HK100 : Bx (k ≤ 100) := ⟨hk100⟩
      have HQ30 : Bx (q ≤ 30) := ⟨by omega⟩
      have HN1 : Bx (n ≤ 16) := ⟨hn16⟩
      clear hk hl hr hB hw hwr hC hgg hx40 hk100 hn16 hq hN
      go_enter Try.func4, Try.ntmps4
      go_wp2_with fail
      refine HG.out.mono ?_
      rintro e w2 ⟨rfl, hb2⟩
      have HB2 := Bx.mk hb2
      obtain ⟨A7, c7, w3, ap7, m7⟩ := MadeR.copy (c := cq) kInt (HWR.out.below hb2 (fun _ h => h)) (fun g hg => Nat.lt_of_lt_of_le hg hb2.size) (by rw [intv_len]; exact HW.out) (fun u hu => by
        unfold intv at hu
        obtain ⟨x, _, rfl⟩ := List.mem_map.1 hu
        rfl) HCN.out (by have := HQ30.out; omega) (by omega)
      have b3 := hb2.trans (m7.below.mono hb2.size)
      obtain ⟨A8, c8, w4, ap8, m8⟩ := MadeR.copy (c := c) kStr (HR.out.below b3 (fun _ h => h)) (fun g hg => Nat.lt_of_lt_of_le hg b3.size) (by rw [strs_len]; exact HL.out) (fun u hu => by
        unfold strs at hu
        obtain ⟨x, _, rfl⟩ := List.mem_map.1 hu
        rfl) HBN.out (by have := HN1.out; omega) (by omega)
      have b4 := b3.trans (m8.below.mono b3.size)
      have m7' := m7.fresh m8.below
      have HB4 := Bx.mk b4
      have R7 := Bx.mk (m7'.row (by rw [intv_len]; exact HW.out))
      have R8 := Bx.mk (m8.row (by rw [strs_len]; exact HL.out))
      have AP7 := Bx.mk ap7
      have AP8 := Bx.mk ap8
      have HO := Bx.mk (order_any (c := ck) (cm := c8) (cq := c7) (HK.out w4 b4) (fun g hg => Nat.lt_of_lt_of_le hg b4.size) HL.out R8.out (fun _ h => h) (fun x hx => by have := HX.out x hx; omega) HW.out R7.out (fun _ h => h) HNN.out HN16.out)
      clear hb2 ap7 m7 b3 ap8 m8 b4 m7'
      go_wp2_with (first | (at_builtin; refine wpList_append_g rfl _ _ rfl rfl rfl rfl AP7.out ?_) | (at_builtin; refine wpList_append_g rfl _ _ rfl rfl rfl rfl AP8.out ?_))
      refine HO.out.mono ?_
      rintro e w5 ⟨o1, g1, rfl, ho1, hl1, hg1, hb5⟩
      have HB5 := Bx.mk (HB4.out.trans (hb5.mono HB4.out.size))
      have H45 := Bx.mk hb5
      have HORD1 := Bx.mk ho1
      have HL1 := Bx.mk hl1
      have hs0 := Bx.mk (Below.refl w5.heap.size w5)
      clear ho1 hl1 hg1 hb5 HO AP7 AP8 HG
      go_wp2
      go_loopw [10] (fun s10 wr => ∃ i : Nat, i ≤ n ∧ s10 = .int .i64 (i : Int) ∧ Bx (Below w5.heap.size w5 wr)) (fun s10 _ => n - (intOf s10).toNat)
      case atStart => exact ⟨0, by omega, rfl, hs0⟩
      case round =>
        clear hs0
        obtain ⟨i, hi, rfl, HB⟩ := hrel
        by_cases hlt : i < n
        · obtain ⟨x, hx⟩ : ∃ x, l[i]? = some x := ⟨_, List.getElem?_eq_getElem (by rw [HL.out]; exact hlt)⟩
          obtain ⟨g8, o8, rfl, ho8, c8i⟩ := ((R8.out.below H45.out (fun _ h => h)).below HB.out (fun g hg => Nat.lt_of_lt_of_le hg H45.out.size)).cell (strs_get hx)
          obtain ⟨gb, ob, rfl, hob, cbi⟩ := ((HR.out.below HB5.out (fun _ h => h)).below HB.out (fun g hg => Nat.lt_of_lt_of_le hg HB5.out.size)).cell (strs_get hx)
          have HB1 := Bx.mk HB.out.drew
          have i0 : (0 : Int) ≤ (i : Int) := by omega
          have i1 : (i : Int) < (n : Int) := by omega
          have hn16 := HN1.out
          clear hx HB ho8 hob
          go_wp2
          go_region
          all_goals
            go_wp2
            go_roundw
            case rel => exact ⟨i + 1, by omega, by go_num, HB1⟩
            case measure => simp [intOf]; omega
        · obtain rfl : i = n := by omega
          have HBW := Bx.mk (HB5.out.trans (HB.out.mono HB5.out.size))
          have HRO := Bx.mk (rorder_any (c := ck) (cm := c) (cq := cq) (HK.out wr HBW.out) (fun g hg => Nat.lt_of_lt_of_le hg HBW.out.size) (by have := HK100.out; omega) HL.out (HR.out.below HBW.out (fun _ h => h)) (fun x hx => by have := HX.out x hx; omega) HW.out (HWR.out.below HBW.out (fun _ h => h)) HNN.out HN16.out)
          clear HX HR
          go_wp2_with fail
          refine HRO.out.mono ?_
          rintro e w6 ⟨o2, A2, c2, rfl, ho2, m2⟩
          have HB6 := Bx.mk (HBW.out.trans (m2.below.mono HBW.out.size))
          have H56 := Bx.mk (HB.out.trans (m2.below.mono HB.out.size))
          have e12 : o1 = o2 := HORD1.out.one ho2
          subst e12
          have hl6 := HL1.out.below H56.out HL1.out.lt
          have ra : RowAt w6 (fun x => x = g1) (some ⟨g1, 0, none⟩) (intv (o1.map fun x : Nat => (x : Int))) := RowAt.of_lies hl6 rfl (by simp [nats_intv'])
          have rb := m2.row (by rw [nats_len]; exact HORD1.out.len)
          rw [nats_intv'] at rb
          have HS := Bx.mk (same_any (c := N) (d := c2) (show (o1.map fun x : Nat => (x : Int)).length = N by rw [List.length_map]; exact HORD1.out.len) ra (fun x e => by subst e; exact hl6.lt) (show (o1.map fun x : Nat => (x : Int)).length = N by rw [List.length_map]; exact HORD1.out.len) rb (fun _ h => h) (by have := HN16.out; omega))
          clear ho2 m2 hl6 ra rb HRO
          go_wp2_with fail
          refine HS.out.mono ?_
          rintro e w7 ⟨rfl, hb7⟩
          have HB7 := Bx.mk (HB6.out.trans (hb7.mono HB6.out.size))
          have H57 := Bx.mk (H56.out.trans (hb7.mono H56.out.size))
          have HS2 := Bx.mk (same_any (c := c7) (d := cq) HW.out ((R7.out.below H45.out (fun _ h => h)).below H57.out (fun g hg => Nat.lt_of_lt_of_le hg H45.out.size)) (fun g hg => Nat.lt_of_lt_of_le (Nat.lt_of_lt_of_le hg H45.out.size) H57.out.size) HW.out (HWR.out.below HB7.out (fun _ h => h)) (fun g hg => Nat.lt_of_lt_of_le hg HB7.out.size) (by have := HQ30.out; omega))
          clear hb7 HS
          go_wp2_with fail
          refine HS2.out.mono ?_
          rintro e w8 ⟨rfl, hb8⟩
          have HB8 := Bx.mk (HB7.out.trans (hb8.mono HB7.out.size))
          clear hb8 HS2
          go_wp2
          go_ret
          exact ⟨by simp, HB8.out⟩
theorem orders_at {w : World} {K B C : Option Addr} {k ck c cq : Nat} {bs : List Int} {l : List Str} {ws : List Int} (hk : Src w (fun g => g < w.heap.size) K k ck bs) (hr : RowAt w (fun g => g < w.heap.size) B (strs l) ∧ (B = none → l.length = 0 ∧ c = 0)) (hwr : RowAt w (fun g => g < w.heap.size) C (intv ws) ∧ (C = none → ws.length = 0 ∧ cq = 0)) :
    Calls Try.prog 4 #[.slice K k ck, .slice B l.length c, .slice C ws.length cq] w (True_ w) := by
  obtain ⟨key, rfl⟩ := ints_of hk.rng
  exact orders_any hk rfl hr.1 hr.2 rfl hwr.1 hwr.2
end Go.Proofs.Ytimlcjdpnhhjdaa.rk
