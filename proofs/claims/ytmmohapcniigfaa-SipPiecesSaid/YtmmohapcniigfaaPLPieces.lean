/-
  Given for the seat's laws: SipPieces at any key, any bytes, any cuts. No condition.
-/
import Derived.Test.YtmmohapcniigfaaPCut
namespace Go.Proofs.Ytmmohapcniigfaa.sp
open Go.RowKit mem
set_option linter.unusedVariables false

/-- numbers of 16 bits as they lie -/
def U16At (w : World) (A : Option Addr) (zs : List Int) : Prop := 0 < zs.length → ∃ g off, A = some ⟨g, off, none⟩ ∧ g < w.heap.size ∧ ∀ (j : Nat) (z : Int), zs[j]? = some z → w.cell? ⟨g, off + j, none⟩ = some (.int .u16 z)

/-- on the way: at bytes were added to the one, something to the other -/
structure PI (w : World) (g1 g2 : Nat) (k0 k1 : W64) (b : Str) (wr : World) : Prop where
  one : HH wr g1 k0 k1 b
  two : ∃ q, HH wr g2 k0 k1 q
  below : Below w.heap.size w wr
theorem PI.fresh {w wr w2 : World} {g1 g2 : Nat} {k0 k1 : W64} {b : Str} (h : PI w g1 g2 k0 k1 b wr) (hb : Below wr.heap.size wr w2) : PI w g1 g2 k0 k1 b w2 := by
  obtain ⟨q, hq⟩ := h.two
  exact ⟨h.one.below hb h.one.lies.lt, ⟨q, hq.below hb hq.lies.lt⟩, h.below.trans (hb.mono h.below.size)⟩
theorem PI.add1 {w wr w2 : World} {g1 g2 : Nat} {k0 k1 : W64} {b c : Str} (h : PI w g1 g2 k0 k1 b wr) (ha : Added wr g1 k0 k1 c w2) (hg : w.heap.size ≤ g1) (hne : g1 ≠ g2) : PI w g1 g2 k0 k1 c w2 := by
  obtain ⟨q, hq⟩ := h.two
  exact ⟨ha.hh, ⟨q, hq.keep (ha.keep.block g2 hq.lies.lt (fun e => hne e.symm))⟩, h.below.trans (ha.keep.below h.below.size (fun k hk e => by omega))⟩
theorem PI.add2 {w wr w2 : World} {g1 g2 : Nat} {k0 k1 : W64} {b c : Str} (h : PI w g1 g2 k0 k1 b wr) (ha : Added wr g2 k0 k1 c w2) (hg : w.heap.size ≤ g2) (hne : g1 ≠ g2) : PI w g1 g2 k0 k1 b w2 :=
  ⟨h.one.keep (ha.keep.block g1 h.one.lies.lt hne), ⟨c, ha.hh⟩, h.below.trans (ha.keep.below h.below.size (fun k hk e => by omega))⟩

set_option maxHeartbeats 4000000 in
set_option maxRecDepth 100000 in
theorem pieces_walk {w : World} (k0 k1 : W64) {A : Option Addr} {n c : Nat} {bs : List Int} (hs0 : Src w (fun g => g < w.heap.size) A n c bs) {A2 : Option Addr} {c2 : Nat} {zs : List Int} (hz : U16At w A2 zs) (hr : ∀ z ∈ zs, 0 ≤ z ∧ z < 65536) :
    Calls Try.prog 5 #[.int .u64 (num k0), .int .u64 (num k1), .slice A n c, .slice A2 zs.length c2] w (True_ w) := by
  obtain ⟨b, rfl⟩ := ints_of hs0.rng
  have hs : Spell w (fun g => g < w.heap.size) A n c b := hs0
  have hbl := spell_len hs
  have hcap := hs.cap
  have hmx := hs.max
  unfold maxLen at hmx
  have hnon := hs.non
  have HAW := Lib.hid (awake_any w)
  have hzl : ∃ m, zs.length = m := ⟨_, rfl⟩
  obtain ⟨m, hm⟩ := hzl
  rw [hm]
  have HZL : Bx _ := ⟨hm⟩
  by_cases h3 : 2000 < n
  · clear hs hs0 hbl hm hz hr hnon
    go_enter Try.func5, Try.ntmps5
    go_wp2_with fail
    refine HAW.out.mono ?_
    rintro e w1 ⟨rfl, hb1⟩
    have HB1 := Lib.hid hb1
    clear hb1
    go_wp2_with fail
    go_ret
    exact ⟨rfl, HB1.out⟩
  · by_cases h4 : 100 < m
    · clear hs hs0 hbl hm hz hr hnon
      go_enter Try.func5, Try.ntmps5
      go_wp2_with fail
      refine HAW.out.mono ?_
      rintro e w1 ⟨rfl, hb1⟩
      have HB1 := Lib.hid hb1
      clear hb1
      go_wp2_with fail
      go_ret
      exact ⟨rfl, HB1.out⟩
    · have HS := Lib.hid hs
      have HBL : Bx _ := ⟨hbl⟩
      have HZ := Lib.hid hz
      have HR := Lib.hid hr
      have HNW := Lib.hid (fun W => new_any k0 k1 W)
      have HNON := Lib.hid hnon
      clear hs hs0 hbl hm hz hr hnon
      go_enter Try.func5, Try.ntmps5
      go_wp2_with fail
      refine HAW.out.mono ?_
      rintro e w1 ⟨rfl, hb1⟩
      have HB1 := Lib.hid hb1
      clear hb1
      go_wp2_with fail
      refine (HNW.out _).mono ?_
      rintro e w2 ⟨g1, rfl, hg1, hh1, hb2⟩
      have HB2 := Lib.hid (HB1.out.trans (hb2.mono HB1.out.size))
      have HG1 := Lib.hid (show w.heap.size ≤ g1 from Nat.le_trans HB1.out.size hg1)
      have HH1 := Lib.hid hh1
      clear hb2 hg1 hh1
      go_wp2_with fail
      refine (HNW.out _).mono ?_
      rintro e w3 ⟨g2, rfl, hg2, hh2, hb3⟩
      have HG2 := Lib.hid (show w.heap.size ≤ g2 from Nat.le_trans HB2.out.size hg2)
      have HNE := Lib.hid (show g1 ≠ g2 from fun e => by have := HH1.out.lies.lt; omega)
      have h0 : Hid (PI w g1 g2 k0 k1 (b.take 0) w3) := Lib.hid ⟨HH1.out.below hb3 HH1.out.lies.lt, ⟨[], hh2⟩, HB2.out.trans (hb3.mono HB2.out.size)⟩
      clear hb3 hg2 hh2 HH1
      go_wp2_with fail
      go_loopw [11, 12] (fun s11 s12 wr => ∃ at' i : Nat, at' ≤ n ∧ i ≤ m ∧ s11 = .int .i64 (at' : Int) ∧ s12 = .int .i64 (i : Int) ∧ Hid (PI w g1 g2 k0 k1 (b.take at') wr)) (fun _ s12 _ => m - (intOf s12).toNat)
      case atStart => exact ⟨0, 0, by omega, by omega, rfl, rfl, h0⟩
      case round =>
        clear h0
        obtain ⟨at', i, hat, hi, rfl, rfl, HP⟩ := hrel
        by_cases hlt : i < m
        · obtain ⟨z, hzi⟩ : ∃ z, zs[i]? = some z := ⟨zs[i]'(by rw [HZL.out]; exact hlt), List.getElem?_eq_getElem _⟩
          obtain ⟨gz, oz, rfl, hgz, hcz⟩ := HZ.out (by rw [HZL.out]; omega)
          have cz : wr.cell? ⟨gz, oz + i, none⟩ = some (.int .u16 z) := (HP.out.below.cell (p := ⟨gz, oz + i, none⟩) hgz).trans (hcz i z hzi)
          obtain ⟨hz0, hz1⟩ := HR.out z (List.mem_of_getElem? hzi)
          clear hzi hcz
          obtain ⟨k, hk⟩ : ∃ k : Nat, z % ((n : Int) - (at' : Int) + 1) = (k : Int) := ⟨(z % ((n : Int) - (at' : Int) + 1)).toNat, (Int.toNat_of_nonneg (Int.emod_nonneg _ (by omega))).symm⟩
          have hkb : at' + k ≤ n := by have := Int.emod_lt_of_pos z (show (0 : Int) < (n : Int) - (at' : Int) + 1 by omega); omega
          have hwz : IntKind.i64.wrap z = z := IntWalk.i64_in _ (by omega)
          have hs1 : Spell wr (fun g => g < w.heap.size) (cutA A c at') k (c - at') ((b.drop at').take k) := by
            have := (HS.out.below HP.out.below (fun g hg => hg)).cut at' k hkb
            have e : ints ((b.drop at').take k) = ((ints b).drop at').take k := by simp [ints, List.map_take, List.map_drop]
            show Src _ _ _ _ _ _
            rw [e]
            exact this
          have HA1 := Lib.hid (add_any HP.out.one hs1 (fun x hx => ⟨fun e => by subst e; have := HG1.out; omega, Nat.lt_of_lt_of_le hx HP.out.below.size⟩))
          have hcut := fun W => cut_lh W A n c at' (at' + k) (by omega) (by omega)
          rw [show at' + k - at' = k by omega, show ((at' + k : Nat) : Int) = (at' : Int) + (k : Int) by omega] at hcut
          have htk : b.take at' ++ (b.drop at').take k = b.take (at' + k) := (List.take_add ..).symm
          rw [htk] at HA1
          have hcuth := fun W => cut_h W A n c (at' + k) (by omega) HNON.out
          rw [show ((at' + k : Nat) : Int) = (at' : Int) + (k : Int) by omega] at hcuth
          clear hs1 htk
          go_wp2_with fail
          refine HA1.out.mono ?_
          rintro e w4 ⟨rfl, ha1⟩
          have HP1 := Lib.hid (HP.out.add1 ha1 HG1.out HNE.out)
          obtain ⟨q, hq⟩ := HP1.out.two
          have h8 := u8_of (i := i) (by omega)
          generalize UInt8.ofNat i = y at h8
          have hyb := y.toNat_lt
          have hy2 : (y.toNat : Int) = (i : Int) := by rw [← h8, IntKind.wrap_u8']; omega
          have hs2 : Spell (w4.alloc (.cells #[.int .u8 (i : Int)] 5)) (fun k => k = w4.heap.size) (some ⟨w4.heap.size, 0, none⟩) 1 1 [y] := by
            rw [← hy2]
            exact src_lit w4 [(y.toNat : Int)] (0, 0) (by simp; omega) (by simp)
          have hq2 : HH (w4.alloc (.cells #[.int .u8 (i : Int)] 5)) g2 k0 k1 q := hq.below ((Below.refl _ _).alloc (Nat.le_refl _) _) hq.lies.lt
          have HA2 := Lib.hid (add_any hq2 hs2 (fun x hx => ⟨fun e => by subst hx; have := hq.lies.lt; omega, by subst hx; simp⟩))
          have HP2 := Lib.hid (HP1.out.fresh ((Below.refl w4.heap.size w4).alloc (Nat.le_refl _) (.cells #[.int .u8 (i : Int)] 5)))
          clear ha1 HA1 hq hq2 hs2 h8 hyb hy2
          go_wp2_with fail
          refine HA2.out.mono ?_
          rintro e w5 ⟨rfl, ha2⟩
          have HP3 := Lib.hid (HP2.out.add2 ha2 HG2.out HNE.out)
          clear ha2 HA2 HP1 HP2
          have HT := Lib.hid (fun (W : World) (hb : Below w5.heap.size w5 W) => told_any (HP3.out.fresh hb).one)
          have hs3 : Spell w5 (fun g => g < w.heap.size) A (at' + k) c (b.take (at' + k)) := by
            have e : ints (b.take (at' + k)) = (ints b).take (at' + k) := by simp [ints, List.map_take]
            have := (HS.out.below HP3.out.below (fun g hg => hg))
            refine ⟨by rw [e, List.length_take]; have := this.len; omega, by omega, this.non, this.max, ints_rng _, ?_⟩
            rw [e]
            exact this.lies.take _
          have HSM := Lib.hid (fun (W : World) (hb : Below w5.heap.size w5 W) => sum_any k0 k1 (hs3.below hb (fun g hg => Nat.lt_of_lt_of_le hg HP3.out.below.size)) (fun g hg => Nat.lt_of_lt_of_le hg (Nat.le_trans HP3.out.below.size hb.size)))
          have HW0 := Lib.hid ((Still.drew1 w5).below w5.heap.size)
          clear hs3
          go_wp2_with fail
          go_region_with (first
            | (((with_reducible refine (HT.out _ ?_).mono ?_); first | exact HW0.out | exact HS2.out); rintro e w6 ⟨rfl, hb6⟩; first | have HT2 := Lib.hid (HS2.out.trans (hb6.mono HS2.out.size)) | have HT2 := Lib.hid (HW0.out.trans (hb6.mono HW0.out.size)))
            | (((with_reducible refine (HSM.out _ ?_).mono ?_); first | exact HW0.out | exact HT2.out); rintro e w7 ⟨rfl, hb7⟩; first | have HS2 := Lib.hid (HT2.out.trans (hb7.mono HT2.out.size)) | have HS2 := Lib.hid (HW0.out.trans (hb7.mono HW0.out.size))))
          all_goals
            go_wp2_with fail
            go_roundw
            case rel => first
              | exact ⟨at' + k, i + 1, hkb, by omega, by go_num, by go_num, Lib.hid (HP3.out.fresh HS2.out)⟩
              | exact ⟨at' + k, i + 1, hkb, by omega, by go_num, by go_num, Lib.hid (HP3.out.fresh HT2.out)⟩
            case measure => simp [intOf]; omega
        · obtain rfl : i = m := by omega
          have hs1 : Spell wr (fun g => g < w.heap.size) (cutA A c at') (n - at') (c - at') (b.drop at') := by
            have := (HS.out.below HP.out.below (fun g hg => hg)).cut at' (n - at') (by omega)
            have e : ints (b.drop at') = ((ints b).drop at').take (n - at') := by
              rw [List.take_of_length_le (by rw [List.length_drop, ints_len, HBL.out]; exact Nat.le_refl _)]
              simp [ints, List.map_drop]
            show Src _ _ _ _ _ _
            rw [e]
            exact this
          have HA1 := Lib.hid (add_any HP.out.one hs1 (fun x hx => ⟨fun e => by subst e; have := HG1.out; omega, Nat.lt_of_lt_of_le hx HP.out.below.size⟩))
          rw [List.take_append_drop] at HA1
          have hcut := fun W => cut_l W A n c at' hat
          clear hs1
          go_wp2_with fail
          refine HA1.out.mono ?_
          rintro e w4 ⟨rfl, ha1⟩
          have HP1 := Lib.hid (HP.out.add1 ha1 HG1.out HNE.out)
          clear ha1 HA1 hcut
          have HT := Lib.hid (told_any HP1.out.one)
          go_wp2_with fail
          refine HT.out.mono ?_
          rintro e w5 ⟨rfl, hb5⟩
          have HP2 := Lib.hid (HP1.out.fresh hb5)
          have HSM := Lib.hid (sum_any k0 k1 (HS.out.below HP2.out.below (fun g hg => hg)) (fun g hg => Nat.lt_of_lt_of_le hg HP2.out.below.size))
          clear hb5 HT HP1
          go_wp2_with fail
          refine HSM.out.mono ?_
          rintro e w6 ⟨rfl, hb6⟩
          have HP3 := Lib.hid (HP2.out.fresh hb6)
          have HT := Lib.hid (told_any HP3.out.one)
          clear hb6 HSM HP2
          go_wp2_with fail
          refine HT.out.mono ?_
          rintro e w7 ⟨rfl, hb7⟩
          have HP4 := Lib.hid (HP3.out.fresh hb7)
          have HT2 := Lib.hid (told_any HP4.out.one)
          clear hb7 HT HP3
          go_wp2_with fail
          refine HT2.out.mono ?_
          rintro e w8 ⟨rfl, hb8⟩
          have HP5 := Lib.hid (HP4.out.fresh hb8)
          clear hb8 HT2
          go_wp2_with fail
          go_ret
          exact ⟨rfl, HP5.out.below⟩
theorem pieces_at {w : World} {a0 a1 : Int} (h0 : 0 ≤ a0 ∧ a0 < 18446744073709551616) (h1 : 0 ≤ a1 ∧ a1 < 18446744073709551616) {A : Option Addr} {n c : Nat} {bs : List Int} (hs0 : Src w (fun g => g < w.heap.size) A n c bs) {A2 : Option Addr} {c2 : Nat} {zs : List Int} (hz : U16At w A2 zs) (hr : ∀ z ∈ zs, 0 ≤ z ∧ z < 65536) :
    Calls Try.prog 5 #[.int .u64 a0, .int .u64 a1, .slice A n c, .slice A2 zs.length c2] w (True_ w) := by
  obtain ⟨k0, rfl⟩ := num_of h0.1 h0.2
  obtain ⟨k1, rfl⟩ := num_of h1.1 h1.2
  exact pieces_walk k0 k1 hs0 hz hr
end Go.Proofs.Ytmmohapcniigfaa.sp
