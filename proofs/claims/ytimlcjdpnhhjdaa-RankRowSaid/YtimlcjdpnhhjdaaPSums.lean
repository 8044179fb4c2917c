/-
  Given for the seat's laws: the contracts of the two Sum functions. No condition but those of the theorems.
-/
import Derived.Test.YtimlcjdpnhhjdaaPSumA
namespace Go.Proofs.Ytimlcjdpnhhjdaa.sp
open Go.RowKit mem
set_option linter.unusedVariables false


theorem xr_255 (x : W64) : bits .xor .u64 255 (num x) = num (xr x (mk 255)) := by
  rw [xr_comm]
  exact bits_xr (mk 255) x
theorem rnds_add (s : St) : ∀ j, rnds (j + 1) s = rnd (rnds j s) := fun _ => rfl

set_option maxHeartbeats 4000000 in
set_option maxRecDepth 100000 in
theorem rsum_any {w : World} {ok : Nat → Prop} {A : Option Addr} {n c : Nat} {b : Str} (k0 k1 : W64) (hs : Spell w ok A n c b) (hok : ∀ g, ok g → g < w.heap.size) (hl : n ≤ 100000) : Calls Try.prog 25 #[.int .u64 (num k0), .int .u64 (num k1), .slice A n c] w (SumTo k0 k1 b w) := by
  have hbl := spell_len hs
  have HW := Lib.hid (words_any hs hok hl)
  obtain ⟨q, hq⟩ : ∃ q, b.length / 8 = q := ⟨_, rfl⟩
  have hwl := ws_len b
  unfold WordsTo at HW
  rw [hq] at hwl HW
  have hqb : q ≤ 100000 := by omega
  have HWL : Bx _ := ⟨hwl⟩
  have h1 : bits .xor .u64 (num k0) 8317987319222330741 = num (xr k0 (mk 8317987319222330741)) := bits_xr k0 (mk 8317987319222330741)
  have h2 : bits .xor .u64 (num k1) 7237128888997146477 = num (xr k1 (mk 7237128888997146477)) := bits_xr k1 (mk 7237128888997146477)
  have h3 : bits .xor .u64 (num k0) 7816392313619706465 = num (xr k0 (mk 7816392313619706465)) := bits_xr k0 (mk 7816392313619706465)
  have h4 : bits .xor .u64 (num k1) 8387220255154660723 = num (xr k1 (mk 8387220255154660723)) := bits_xr k1 (mk 8387220255154660723)
  have hI : init k0 k1 = ⟨xr k0 (mk 8317987319222330741), xr k1 (mk 7237128888997146477), xr k0 (mk 7816392313619706465), xr k1 (mk 8387220255154660723)⟩ := rfl
  obtain ⟨a, ha⟩ : ∃ y, xr k0 (mk 8317987319222330741) = y := ⟨_, rfl⟩
  obtain ⟨b', hb⟩ : ∃ y, xr k1 (mk 7237128888997146477) = y := ⟨_, rfl⟩
  obtain ⟨c', hc⟩ : ∃ y, xr k0 (mk 7816392313619706465) = y := ⟨_, rfl⟩
  obtain ⟨d, hd⟩ : ∃ y, xr k1 (mk 8387220255154660723) = y := ⟨_, rfl⟩
  rw [ha] at h1 hI
  rw [hb] at h2 hI
  rw [hc] at h3 hI
  rw [hd] at h4 hI
  have hsum0 := hsum_ws k0 k1 b
  rw [hI] at hsum0
  have HSUM : Bx _ := ⟨hsum0⟩
  have RA := Lib.hid (fun a b c d W => round_any a b c d W)
  clear hs hok hbl hq hwl hI ha hb hc hd hsum0
  go_enter Try.func25, Try.ntmps25
  go_wp2_with fail
  refine HW.out.mono ?_
  rintro e w1 ⟨A1, c1, rfl, hm⟩
  have HM := Lib.hid hm
  clear hm h1 h2 h3 h4
  have hxr := bits_xr
  go_wp2_with fail
  go_loop [7, 8, 9, 10, 12] (fun s7 s8 s9 s10 s12 => ∃ (i : Nat) (t : St), i ≤ q + 1 ∧ s12 = .int .i64 (i : Int) ∧ s7 = .int .u64 (num t.a) ∧ s8 = .int .u64 (num t.b) ∧ s9 = .int .u64 (num t.c) ∧ s10 = .int .u64 (num t.d) ∧ Bx (((ws b).take i).foldl wd ⟨a, b', c', d⟩ = t)) (fun _ _ _ _ s12 => q + 2 - (intOf s12).toNat)
  case atStart => exact ⟨0, ⟨a, b', c', d⟩, by omega, rfl, rfl, rfl, rfl, rfl, ⟨rfl⟩⟩
  case round =>
    obtain ⟨i, t, hi, rfl, rfl, rfl, rfl, rfl, HT⟩ := hrel
    obtain ⟨ta, tb, tc, td⟩ := t
    by_cases hlt : i < q + 1
    · obtain ⟨m, hm⟩ : ∃ m, (ws b)[i]? = some m := ⟨(ws b)[i]'(by rw [HWL.out]; exact hlt), List.getElem?_eq_getElem _⟩
      have hat : ∃ g, A1 = some ⟨g, 0, none⟩ ∧ w1.cell? ⟨g, i, none⟩ = some (.int .u64 (num m)) := by
        have ho := HM.out.own
        rcases ho.2 with ⟨hv, hn⟩ | ⟨g, cap, cur, hv, hb, hh, hnc, hmx, hsz, ht⟩
        · rw [HWL.out] at hn; omega
        · simp only [Value.slice.injEq] at hv
          obtain ⟨rfl, _, rfl⟩ := hv
          refine ⟨g, rfl, ?_⟩
          have hz' : (W8 (ws b))[i]? = some (.int .u64 (num m)) := by simp [W8, hm]
          rw [← ht, Nat.mul_one, List.getElem?_take] at hz'
          split at hz'
          · simp [World.cell?, hh]
            simpa using hz'
          · cases hz'
      obtain ⟨g, rfl, cm⟩ := hat
      have htk : (ws b).take (i + 1) = (ws b).take i ++ [m] := by rw [List.take_add_one, hm]; rfl
      obtain ⟨d1, hd1⟩ : ∃ y, xr m td = y := ⟨_, rfl⟩
      obtain ⟨t1, ht1⟩ : ∃ y, rnd ⟨ta, tb, tc, d1⟩ = y := ⟨_, rfl⟩
      obtain ⟨a1, b1, c2, d2⟩ := t1
      obtain ⟨t2, ht2⟩ : ∃ y, rnd ⟨a1, b1, c2, d2⟩ = y := ⟨_, rfl⟩
      obtain ⟨a3, b3, c3, d3⟩ := t2
      obtain ⟨a4, ha4⟩ : ∃ y, xr m a3 = y := ⟨_, rfl⟩
      have hw : ((ws b).take (i + 1)).foldl wd ⟨a, b', c', d⟩ = ⟨a4, b3, c3, d3⟩ := by
        rw [htk, List.foldl_append, HT.out]
        show (let t := rnd (rnd ⟨ta, tb, tc, xr td m⟩); (⟨xr t.a m, t.b, t.c, t.d⟩ : St)) = _
        rw [xr_comm td m, hd1, ht1, ht2]
        show (⟨xr a3 m, b3, c3, d3⟩ : St) = _
        rw [xr_comm a3 m, ha4]
      have r1 := fun W => RA.out ta tb tc d1 W
      have r2 := fun W => RA.out a1 b1 c2 d2 W
      rw [ht1] at r1
      rw [ht2] at r2
      have R1 := Lib.hid r1; have R2 := Lib.hid r2
      have HW2 : Bx _ := ⟨hw⟩
      have k1 := hxr m td
      have k2 := hxr m a3
      rw [hd1] at k1
      rw [ha4] at k2
      clear hm htk hd1 ht1 ht2 ha4 hw r1 r2 hxr
      go_wp2_with fail
      refine (R1.out _).mono ?_
      rintro e w2 ⟨rfl, rfl⟩
      go_wp2_with fail
      refine (R2.out _).mono ?_
      rintro e w3 ⟨rfl, rfl⟩
      go_wp2_with fail
      go_round
      case rel => exact ⟨i + 1, ⟨a4, b3, c3, d3⟩, by omega, by go_num, rfl, rfl, rfl, rfl, HW2⟩
      case measure => simp [intOf]; omega
    · obtain rfl : i = q + 1 := by omega
      have ht : (ws b).take (q + 1) = ws b := List.take_of_length_le (by rw [HWL.out]; exact Nat.le_refl _)
      rw [ht] at HT
      have hsm := HSUM.out
      rw [HT.out] at hsm
      have k5 := xr_255 tc
      have hfin : fin ⟨ta, tb, tc, td⟩ = (let t := rnds 4 ⟨ta, tb, xr tc (mk 255), td⟩; xr (xr (xr t.a t.b) t.c) t.d) := rfl
      generalize xr tc (mk 255) = c5 at k5 hfin
      have HF : Bx _ := ⟨hsm.trans hfin⟩
      clear ht hsm hfin HT HSUM
      go_wp2_with fail
      clear k5
      go_loop [7, 8, 9, 10, 13] (fun s7 s8 s9 s10 s13 => ∃ (i : Nat) (t : St), i ≤ 4 ∧ s13 = .int .i64 (i : Int) ∧ s7 = .int .u64 (num t.a) ∧ s8 = .int .u64 (num t.b) ∧ s9 = .int .u64 (num t.c) ∧ s10 = .int .u64 (num t.d) ∧ Bx (rnds i ⟨ta, tb, c5, td⟩ = t)) (fun _ _ _ _ s13 => 4 - (intOf s13).toNat)
      case atStart => exact ⟨0, ⟨ta, tb, c5, td⟩, by omega, rfl, rfl, rfl, rfl, rfl, ⟨rfl⟩⟩
      case round =>
        obtain ⟨i, t, hi, rfl, rfl, rfl, rfl, rfl, HT⟩ := hrel
        obtain ⟨ua, ub, uc, ud⟩ := t
        by_cases hlt : i < 4
        · obtain ⟨t1, ht1⟩ : ∃ y, rnd ⟨ua, ub, uc, ud⟩ = y := ⟨_, rfl⟩
          obtain ⟨a1, b1, c2, d2⟩ := t1
          have hr : rnds (i + 1) ⟨ta, tb, c5, td⟩ = ⟨a1, b1, c2, d2⟩ := by rw [rnds_add, HT.out, ht1]
          have r1 := fun W => RA.out ua ub uc ud W
          rw [ht1] at r1
          have R1 := Lib.hid r1
          have HR : Bx _ := ⟨hr⟩
          clear ht1 hr r1 hxr
          go_wp2_with fail
          refine (R1.out _).mono ?_
          rintro e w2 ⟨rfl, rfl⟩
          go_wp2_with fail
          go_round
          case rel => exact ⟨i + 1, ⟨a1, b1, c2, d2⟩, by omega, by go_num, rfl, rfl, rfl, rfl, HR⟩
          case measure => simp [intOf]; omega
        · obtain rfl : i = 4 := by omega
          have hf := HF.out
          simp only [HT.out] at hf
          have HF2 : Bx _ := ⟨hf⟩
          clear hf HF
          go_wp2_with fail
          go_ret
          exact ⟨by rw [HF2.out]; rfl, HM.out.below⟩
end Go.Proofs.Ytimlcjdpnhhjdaa.sp
