/-
  Given for the seat's laws: the contract of Add. No condition but those of the theorems.
-/
import Derived.Test.YtimlcjdpnhhjdaaPHash
namespace Go.Proofs.Ytimlcjdpnhhjdaa.sp
open Go.RowKit mem
set_option linter.unusedVariables false

theorem add_none (v : Value) (w : World) : Calls Try.prog 38 #[.pointer none, v] w fun e w' => e = .returned (.tuple #[]) ∧ w' = w := by
  go_enter Try.func38, Try.ntmps38
  go_wp2_with fail
  refine (made_none _).mono ?_
  rintro e w1 ⟨rfl, rfl⟩
  go_wp2_with fail
  refine bodyPost_ret (results_none rfl _ _ _) rfl ?_
  exact ⟨rfl, rfl⟩
theorem add_odd {w : World} {g : Nat} (h : w.cell? ⟨g, 0, none⟩ = some (.pointer none)) (v : Value) : Calls Try.prog 38 #[.pointer (some ⟨g, 0, none⟩), v] w fun e w' => e = .returned (.tuple #[]) ∧ w' = w := by
  have HM := Lib.hid (made_odd h)
  clear h
  go_enter Try.func38, Try.ntmps38
  go_wp2_with fail
  refine HM.out.mono ?_
  rintro e w1 ⟨rfl, rfl⟩
  go_wp2_with fail
  refine bodyPost_ret (results_none rfl _ _ _) rfl ?_
  exact ⟨rfl, rfl⟩

/-- bytes were added, and nothing else has turned -/
structure Added (w : World) (g : Nat) (k0 k1 : W64) (p : Str) (wr : World) : Prop where
  hh : HH wr g k0 k1 p
  keep : Keep w.heap.size (fun x => x = g) w wr
theorem u8_rem (n : Nat) (hn : n < 256) : ∃ e f n2 : Nat, e = n % 8 ∧ f = 8 * e ∧ n2 = (n + 1) % 256 ∧ (n : Int) % 8 = (e : Int) ∧ (n : Int).tmod 8 = (e : Int) ∧ IntKind.u8.wrap (e : Int) = (e : Int) ∧ (e : Int) * 8 = (f : Int) ∧ IntKind.u8.wrap (f : Int) = (f : Int) ∧ IntKind.u8.wrap ((n : Int) + 1) = (n2 : Int) :=
  ⟨n % 8, 8 * (n % 8), (n + 1) % 256, rfl, rfl, rfl, by omega, by rw [Int.tmod_eq_emod_of_nonneg (by omega)]; omega, by rw [IntKind.wrap_u8']; omega, by omega, by rw [IntKind.wrap_u8']; omega, by rw [IntKind.wrap_u8']; omega⟩

set_option maxHeartbeats 4000000 in
set_option maxRecDepth 100000 in
theorem add_any {w : World} {g : Nat} {k0 k1 : W64} {p : Str} (h : HH w g k0 k1 p) {A : Option Addr} {n c : Nat} {ok : Nat → Prop} {b : Str} (hs : Spell w ok A n c b) (hok : ∀ x, ok x → x ≠ g ∧ x < w.heap.size) :
    Calls Try.prog 38 #[.pointer (some ⟨g, 0, none⟩), .slice A n c] w fun e w' => e = .returned (.tuple #[]) ∧ Added w g k0 k1 (p ++ b) w' := by
  have hmax := hs.max
  have hcap := hs.cap
  unfold maxLen at hmax
  have hbl := spell_len hs
  have HS := Lib.hid hs
  have HOK := Lib.hid hok
  have HBL : Bx _ := ⟨hbl⟩
  have HM := Lib.hid (made_yes (cs := []) (h.lies.cell 0))
  have H0 := Lib.hid (show Added w g k0 k1 (p ++ b.take 0) w from ⟨by simpa using h, Keep.refl _ _ _⟩)
  have hgl := h.lies.lt
  clear h hs hok hbl
  go_enter Try.func38, Try.ntmps38
  go_wp2_with fail
  refine HM.out.mono ?_
  rintro e w1 ⟨rfl, rfl⟩
  clear HM
  go_wp2_with fail
  go_loopw [11] (fun s11 wr => ∃ i : Nat, i ≤ n ∧ s11 = .int .i64 (i : Int) ∧ Hid (Added w1 g k0 k1 (p ++ b.take i) wr)) (fun s11 _ => n - (intOf s11).toNat)
  case atStart => exact ⟨0, by omega, rfl, H0⟩
  case round =>
    clear H0
    obtain ⟨i, hi, rfl, HA⟩ := hrel
    by_cases hlt : i < n
    · obtain ⟨ch, hch⟩ : ∃ ch, b[i]? = some ch := ⟨b[i]'(by rw [HBL.out]; exact hlt), List.getElem?_eq_getElem _⟩
      obtain ⟨gb, off, rfl, hg, cb⟩ := spell_cell HS.out hch
      have hgb := HOK.out gb hg
      have cb1 : wr.cell? ⟨gb, off + i, none⟩ = some (.int .u8 (ch.toNat : Int)) := (World.cell?_of_block (HA.out.keep.block gb hgb.2 hgb.1)).trans cb
      have htk : p ++ b.take (i + 1) = (p ++ b.take i) ++ [ch] := by
        rw [List.take_add_one, hch, List.append_assoc]
        rfl
      have HTK : Bx _ := ⟨htk⟩
      have hchb := ch.toNat_lt
      generalize p ++ b.take i = q at HA HTK
      have HL := HA.out.hh.lies
      have hK := HA.out.keep
      have hob := or_byte (part q) ch (by rw [part_len]; omega)
      rw [part_len] at hob
      obtain ⟨e, f, n2, he, hf, hn2, y1, y2, y3, y4, y5, y6⟩ := u8_rem (q.length % 256) (by omega)
      have hq8 : q.length % 8 = e := by omega
      rw [hq8, ← hf] at hob
      have hwc : IntKind.u64.wrap (ch.toNat : Int) = (ch.toNat : Int) := by rw [IntKind.wrap_u64]; omega
      have hfb : f ≤ 56 := by omega
      have hn2b : n2 < 256 := by omega
      have hqt : (q ++ [ch]).length % 256 = n2 := by simp; omega
      have hq9 : (q.length + 1) % 8 = n2 % 8 := by omega
      have HQT : Bx _ := ⟨hqt⟩
      have HQ9 : Bx _ := ⟨hq9⟩
      have hvt := vst_turn k0 k1 q ch
      have hvs := vst_snoc k0 k1 q ch
      have hps := fun h => (full_snoc q ch h).2
      have hpt := fun h => (full_turn q ch h).2
      have HVT : Bx _ := ⟨hvt⟩; have HVS : Bx _ := ⟨hvs⟩; have HPS : Bx _ := ⟨hps⟩; have HPT : Bx _ := ⟨hpt⟩
      have HEF : Bx _ := ⟨And.intro he hf⟩
      clear hch cb htk hvt hvs hps hpt hqt hq9 hq8 he hf hn2 HA
      generalize q.length % 256 = ln at HL y1 y2 y6
      generalize hm2 : mk (le (part q ++ [ch])) = m2 at hob HVT
      generalize mk (le (part q)) = m at HL hob
      generalize hs0 : vst k0 k1 q = s0 at HL HVT HVS
      obtain ⟨a, b', c', d⟩ := s0
      clear hs0
      have hc0 := HL.cell 0; have hc1 := HL.cell 1; have hc2 := HL.cell 2; have hc3 := HL.cell 3; have hc4 := HL.cell 4; have hc5 := HL.cell 5; have hc6 := HL.cell 6
      have hf0 := HL.frozen 0; have hf1 := HL.frozen 1; have hf2 := HL.frozen 2; have hf3 := HL.frozen 3; have hf4 := HL.frozen 4; have hf5 := HL.frozen 5; have hf6 := HL.frozen 6
      simp only [List.getElem?_toArray, List.getElem?_cons_zero, List.getElem?_cons_succ] at hc0 hc1 hc2 hc3 hc4 hc5 hc6
      have H1 := Lib.hid (HL.drew.set 5 (.int .u64 (num m2)))
      have K1 := Lib.hid (hK.drew)
      clear HL hK
      go_wp2_with fail
      go_still_tail 16, (by kernel_rfl)
      change wpList _ _ _ _ _ wr.drew
      have d1 : wr.drew.cell? ⟨g, 1, none⟩ = some (.int .u64 (num a)) := hc1
      have d2 : wr.drew.cell? ⟨g, 2, none⟩ = some (.int .u64 (num b')) := hc2
      have d3 : wr.drew.cell? ⟨g, 3, none⟩ = some (.int .u64 (num c')) := hc3
      have d4 : wr.drew.cell? ⟨g, 4, none⟩ = some (.int .u64 (num d)) := hc4
      have d5 : wr.drew.cell? ⟨g, 5, none⟩ = some (.int .u64 (num m)) := hc5
      have d6 : wr.drew.cell? ⟨g, 6, none⟩ = some (.int .u8 (ln : Int)) := hc6
      have z1 : wr.drew.frozen? ⟨g, 1, none⟩ = false := hf1
      have z2 : wr.drew.frozen? ⟨g, 2, none⟩ = false := hf2
      have z3 : wr.drew.frozen? ⟨g, 3, none⟩ = false := hf3
      have z4 : wr.drew.frozen? ⟨g, 4, none⟩ = false := hf4
      have z5 : wr.drew.frozen? ⟨g, 5, none⟩ = false := hf5
      have z6 : wr.drew.frozen? ⟨g, 6, none⟩ = false := hf6
      clear hc0 hc1 hc2 hc3 hc4 hc5 hc6 hf0 hf1 hf2 hf3 hf4 hf5 hf6 cb1
      generalize wr.drew = v1 at *
      have H2 := Lib.hid (H1.out.set 6 (.int .u8 (n2 : Int)))
      have K2 := Lib.hid ((K1.out.setCell (p := ⟨g, 5, none⟩) (.inr rfl) (.int .u64 (num m2))).setCell (p := ⟨g, 6, none⟩) (.inr rfl) (.int .u8 (n2 : Int)))
      have hgk := Lib.hid K2.out.size
      clear H1 K1 y1 y2 y3 y4 y5 hob hwc
      have HM2 : Bx _ := ⟨hm2⟩
      clear hm2
      by_cases h8 : n2 % 8 = 0
      · have t1 : ((n2 : Int) % 8 == 0) = true := by
          rw [show (n2 : Int) % 8 = 0 by omega]; rfl
        have HV := HVT.out (by rw [HQ9.out]; exact h8)
        have HP := HPT.out (by rw [HQ9.out]; exact h8)
        have WD := Lib.hid (fun W => word_any ⟨a, b', c', d⟩ m2 W)
        obtain ⟨t, ht⟩ : ∃ t, wd ⟨a, b', c', d⟩ m2 = t := ⟨_, rfl⟩
        rw [ht] at HV WD
        obtain ⟨ta, tb, tc, td⟩ := t
        have HV : Bx _ := ⟨HV⟩
        have HP : Bx _ := ⟨HP⟩
        have H8 := Lib.hid h8
        clear h8 ht
        go_wp2_with fail
        clear d1 d2 d3 d4 d5 d6 z1 z2 z3 z4 z5 z6
        generalize (v1.setCell ⟨g, 5, none⟩ (.int .u64 (num m2))).setCell ⟨g, 6, none⟩ (.int .u8 (n2 : Int)) = v2 at *
        have hL2 : Lies v2 g 91 (hcells g ⟨a, b', c', d⟩ m2 n2) := H2.out
        have hg2 := hL2.lt
        have d1 := hL2.cell 1; have d2 := hL2.cell 2; have d3 := hL2.cell 3; have d4 := hL2.cell 4; have d5 := hL2.cell 5
        simp only [List.getElem?_toArray, List.getElem?_cons_zero, List.getElem?_cons_succ] at d1 d2 d3 d4 d5
        have HL2 := Lib.hid hL2
        clear hL2 H2
        have HW := Lib.hid (fun (w6 : World) (hb : Below v2.drew.heap.size v2.drew w6) => (HL2.out.drew.below hb hg2))
        go_region_with ((with_reducible refine (WD.out _).mono ?_); rintro e w6 ⟨rfl, hb⟩; have q := HW.out w6 hb; have q1 := q.cell 1; have q2 := q.cell 2; have q3 := q.cell 3; have q4 := q.cell 4; have q5 := q.cell 5; have p1 := q.frozen 1; have p2 := q.frozen 2; have p3 := q.frozen 3; have p4 := q.frozen 4; have p5 := q.frozen 5; simp only [List.getElem?_toArray, List.getElem?_cons_zero, List.getElem?_cons_succ] at q1 q2 q3 q4 q5; have HQ := Lib.hid q; have HB := Lib.hid hb; clear q hb)
        all_goals
          go_wp2_with fail
          go_roundw
          case rel => exact ⟨i + 1, by omega, by go_num, Lib.hid (by
            rw [HTK.out]
            refine ⟨⟨?_⟩, ?_⟩
            · rw [HV.out, HP.out, HQT.out]
              have f := ((((HQ.out.set 1 (.int .u64 (num ta))).set 2 (.int .u64 (num tb))).set 3 (.int .u64 (num tc))).set 4 (.int .u64 (num td))).set 5 (.int .u64 0)
              exact f
            · have k := (K2.out.drew).trans (Keep.of_below (HB.out.mono (Nat.le_trans hgk.out (Nat.le_refl _))) _)
              exact ((((k.setCell (.inr rfl) _).setCell (.inr rfl) _).setCell (.inr rfl) _).setCell (.inr rfl) _).setCell (.inr rfl) _)⟩
          case measure => simp [intOf]; omega
      · have t1 : ((n2 : Int) % 8 == 0) = false := by
          have : (n2 : Int) % 8 ≠ 0 := by omega
          simpa using this
        have HV := HVS.out (by rw [HQ9.out]; exact h8)
        have HP := HPS.out (by rw [HQ9.out]; exact h8)
        have HV : Bx _ := ⟨HV⟩
        have HP : Bx _ := ⟨HP⟩
        clear h8
        go_wp2_with fail
        go_roundw
        case rel => exact ⟨i + 1, by omega, by go_num, Lib.hid (by
          rw [HTK.out]
          exact ⟨⟨by rw [HV.out, HP.out, HQT.out, HM2.out]; exact H2.out⟩, K2.out⟩)⟩
        case measure => simp [intOf]; omega
    · obtain rfl : i = n := by omega
      have HF : Bx _ := ⟨show p ++ b.take i = p ++ b by rw [List.take_of_length_le (by rw [HBL.out]; exact Nat.le_refl _)]⟩
      rw [HF.out] at HA
      go_wp2_with fail
      go_end0
      exact ⟨rfl, HA.out⟩
end Go.Proofs.Ytimlcjdpnhhjdaa.sp
