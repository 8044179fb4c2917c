/-
  Given for 'Rows.RingPlaysSaid': the walk of RingPlays: it returns true at every input, and turns nothing that was there. No condition.
-/
import Derived.Test.YthagggclhahikaaPlays
import Derived.Deep.RegionHeld3
namespace Go.Proofs.Ythagggclhahikaa.plays
open Go.RowKit mem ring plain put peek same api awake two acts order model
set_option linter.unusedVariables false

set_option maxRecDepth 100000 in
set_option maxHeartbeats 24000000 in
theorem plays_in (N : Nat) (A0 : Option Addr) (c0 : Nat) (acts : List ActD) (w : World) (hN : 1 ≤ N) (hN3 : N ≤ 4096) (hg : greatB acts = false) (hm : acts.length ≤ maxLen) (hat : ActsAt w A0 acts) (hok : ActsOk w acts) :
    Calls Try.prog 3 #[.int .i64 (N : Int), .slice A0 acts.length c0] w fun e w' => e = .returned (.bool true) ∧ Below w.heap.size w w' := by
  have hlen := greatB_len hg
  have HG := Lib.hid hg
  have HGR := Lib.hid (great_any A0 c0 acts w hm hat)
  have HOK := Lib.hid hok
  have HAT := Lib.hid hat
  clear hg hm hok hat
  go_enter Try.func3, Try.ntmps3
  go_wp2_with fail
  refine HGR.out.mono ?_
  rintro e w' ⟨rfl, rfl⟩
  rw [HG.out]
  have HN := Lib.hid (new_has N w hN hN3)
  go_wp2_with fail
  refine HN.out.mono ?_
  rintro e w2 ⟨b, s, rfl, hh2, hb2, hs2, hbel2⟩
  have HM := Lib.hid (mnew_yes N w2 hN hN3 w.heap.size)
  have HH2 := Lib.hid hh2
  have HB2 := Lib.hid hbel2
  clear hh2 hbel2 HN HGR
  go_wp2_with fail
  refine HM.out.mono ?_
  rintro e w3 ⟨rfl, hmod3, hbel3⟩
  have hpl : Pl w w3 b s w2.heap.size N none 0 [] [] := by
    have l1 := HH2.out.lt
    have z2 := HB2.out.size
    exact ⟨HH2.out.below hbel3 l1.1 l1.2, hmod3, ⟨hb2, hs2, z2⟩, ⟨by omega, by omega⟩, (fun g e => by simp [rowOf, Value.ownBlock] at e), HB2.out.trans (hbel3.mono z2)⟩
  have HPL := Lib.hid hpl
  clear hpl hmod3 hbel3 HM HH2 HB2
  generalize hqv : w2.heap.size = q at *
  clear hqv hb2 hs2
  obtain ⟨len, hlv⟩ : ∃ len, acts.length = len := ⟨_, rfl⟩
  have HLV := Lib.hid hlv
  rw [hlv] at hlen
  clear hlv
  rw [HLV.out]
  go_wp2_with fail
  go_loopg [9] len (fun g i wr => ∃ (k : Nat) (A : Option Addr) (c : Nat) (xs : List Int), k ≤ len ∧ g = len - k ∧ i = .int .i64 k ∧ Hid (Pl w wr b s q N A c xs xs))
  case atStart => exact ⟨0, none, 0, [], Nat.zero_le _, rfl, rfl, HPL⟩
  case round =>
    clear HPL
    obtain ⟨k, A, c, xs, hk, rfl, rfl, hinv⟩ := hrel
    by_cases hlt : k < len
    · obtain ⟨x, hx⟩ : ∃ x, acts[k]? = some x := ⟨_, List.getElem?_eq_getElem (by rw [HLV.out]; exact hlt)⟩
      have hatr := ActsAt.below HAT.out (actsAt_lt HAT.out) hinv.out.below
      obtain ⟨ba, off, rfl, hcs⟩ := hatr (by rw [HLV.out]; omega)
      obtain ⟨d0, d1, d2⟩ := hcs k x hx
      obtain ⟨⟨bs, hsrc⟩, hk0, hk1, hn0, hn1⟩ := HOK.out k x hx
      have hxl := greatB_each HG.out hx
      have HSRC := Lib.hid hsrc
      clear hx hatr hcs hsrc
      have hst : St w (wr.alloc (.cells #[.int .u8 x.kind, .int .i64 x.n, .slice x.A x.l x.c] 33)) b s q N wr.heap.size x A c xs xs := by
        have hbx := Lies.new wr 33 #[.int .u8 x.kind, .int .i64 x.n, .slice x.A x.l x.c]
        have hp := hinv.out.later ((Below.refl _ wr).alloc (Nat.le_refl _) (.cells #[.int .u8 x.kind, .int .i64 x.n, .slice x.A x.l x.c] 33))
        have l1 := hinv.out.has.lt
        have l2 := hinv.out.mod.head.lt
        exact ⟨hp, hbx, hinv.out.below.size, ⟨by omega, by omega, by omega⟩, fun e => by have := hinv.out.mod.rowLt e; omega⟩
      have HST := Lib.hid hst
      have hqs := hinv.out.mod.head.lt
      have hfit := hinv.out.has.fits
      clear hst hinv
      obtain ⟨kd, xn, XA, xl, xc⟩ := x
      dsimp only at d0 d1 d2 hk0 hk1 hn0 hn1 hxl HSRC HST
      go_upto_block 2 with fail
      generalize wr.alloc (.cells #[.int .u8 kd, .int .i64 xn, .slice XA xl xc] 33) = W1 at HST ⊢
      generalize wr.heap.size = X at HST ⊢
      clear d0 d1 d2 hqs HOK HAT HG
      go_cut [63] (fun s63 wx => ∃ (A : Option Addr) (c : Nat) (xs : List Int), Hid (St w wx b s q N X ⟨kd, xn, XA, xl, xc⟩ A c xs xs))
      case first =>
        have hcase : kd % 4 = 0 ∨ kd % 4 = 1 ∨ kd % 4 = 2 ∨ kd % 4 = 3 := by omega
        rcases hcase with hq | hq | hq | hq
        · have f2 := HST.out.c2
          have HC := Lib.hid (copy_st HST.out HSRC.out hxl)
          go_upto_region 17 with (go_at_call 11; refine HC.out.mono ?_; rintro e W2 ⟨D, cD, rfl, hs2, ho2⟩)
          have g2 := hs2.c2
          obtain ⟨kp, hkp⟩ : ∃ kp, kp = min xl (N - xs.length) := ⟨_, rfl⟩
          have HP := Lib.hid (put_st (hs2.later (Below.refl _ _).drew) HSRC.out hxl (ho2.later (Below.refl _ _).drew) kp hkp)
          clear hs2 ho2 hkp f2 HC HST
          generalize W1.heap.size = B1 at HP
          go_region_held3 (fun W' => W'.cell? ⟨X, 2, none⟩ = some (.slice XA xl xc)) (first | exact g2 | exact f3 | exact f4 | exact f5)
            (first
              | (go_at_call 12; refine HP.out.mono ?_; rintro e W3 ⟨rfl, f3, hp3⟩; have HP3 := Lib.hid hp3; clear HP hp3)
              | (go_at_call 13; refine HP3.out.mono ?_; rintro e W4 ⟨rfl, f4, hp4⟩; have HP4 := Lib.hid hp4; clear HP3 hp4)
              | (go_at_call 14; refine HP4.out.mono ?_; rintro e W5 ⟨rfl, A5, c5, xs5, hs5, ho5⟩; have f5 := hs5.c2; have HS5 := Lib.hid hs5; have HO5 := Lib.hid ho5; clear HP4 hs5))
          all_goals
            have HB5 := Lib.hid (bump_start ho5.own)
            clear ho5
            go_wp2_with fail
            go_loopg [12] xl (fun g s12 wx => ∃ j : Nat, j ≤ xl ∧ g = xl - j ∧ s12 = .int .i64 j ∧ Hid (Bump W5 wx D xl))
            case atStart => exact ⟨0, Nat.zero_le _, rfl, rfl, HB5⟩
            case round =>
              clear HB5
              obtain ⟨j, hj, rfl, rfl, hb⟩ := hrel
              by_cases hjl : j < xl
              · obtain ⟨hk5, hx5⟩ := hb.out
                obtain ⟨g, cur, rfl, hl, hg, hc⟩ := hx5 (by omega)
                obtain ⟨z, hz⟩ := hc j hjl
                have cz := (hl.cell j).trans hz
                have fz := hl.frozen j
                have HR := Lib.hid (fun y => bump_round (j := j) (y := y) hk5 hl hg hc)
                clear hk5 hx5 hb hl hg hc hz
                go_wp2_with fail
                go_roundg (xl - (j + 1))
                case measure => omega
                case rel => exact ⟨j + 1, by omega, rfl, by go_num, HR.out _⟩
              · go_wp2_with fail
                go_meet
                exact ⟨A5, c5, xs5, Lib.hid (HS5.out.bumped HO5.out hb.out)⟩
        · have f2 := HST.out.c2
          have HC := Lib.hid (copy_st HST.out HSRC.out hxl)
          go_upto_region 17 with (go_at_call 11; refine HC.out.mono ?_; rintro e W2 ⟨D, cD, rfl, hs2, ho2⟩)
          have g2 := hs2.c2
          obtain ⟨kp, hkp⟩ : ∃ kp, kp = min xl (N - xs.length) := ⟨_, rfl⟩
          have HP := Lib.hid (put_st (hs2.later (Below.refl _ _).drew) HSRC.out hxl (ho2.later (Below.refl _ _).drew) kp hkp)
          clear hs2 ho2 hkp f2 HC HST
          generalize W1.heap.size = B1 at HP
          go_region_held3 (fun W' => W'.cell? ⟨X, 2, none⟩ = some (.slice XA xl xc)) (first | exact g2 | exact f3 | exact f4 | exact f5)
            (first
              | (go_at_call 12; refine HP.out.mono ?_; rintro e W3 ⟨rfl, f3, hp3⟩; have HP3 := Lib.hid hp3; clear HP hp3)
              | (go_at_call 13; refine HP3.out.mono ?_; rintro e W4 ⟨rfl, f4, hp4⟩; have HP4 := Lib.hid hp4; clear HP3 hp4)
              | (go_at_call 14; refine HP4.out.mono ?_; rintro e W5 ⟨rfl, A5, c5, xs5, hs5, ho5⟩; have f5 := hs5.c2; have HS5 := Lib.hid hs5; have HO5 := Lib.hid ho5; clear HP4 hs5))
          all_goals
            have HB5 := Lib.hid (bump_start ho5.own)
            clear ho5
            go_wp2_with fail
            go_loopg [12] xl (fun g s12 wx => ∃ j : Nat, j ≤ xl ∧ g = xl - j ∧ s12 = .int .i64 j ∧ Hid (Bump W5 wx D xl))
            case atStart => exact ⟨0, Nat.zero_le _, rfl, rfl, HB5⟩
            case round =>
              clear HB5
              obtain ⟨j, hj, rfl, rfl, hb⟩ := hrel
              by_cases hjl : j < xl
              · obtain ⟨hk5, hx5⟩ := hb.out
                obtain ⟨g, cur, rfl, hl, hg, hc⟩ := hx5 (by omega)
                obtain ⟨z, hz⟩ := hc j hjl
                have cz := (hl.cell j).trans hz
                have fz := hl.frozen j
                have HR := Lib.hid (fun y => bump_round (j := j) (y := y) hk5 hl hg hc)
                clear hk5 hx5 hb hl hg hc hz
                go_wp2_with fail
                go_roundg (xl - (j + 1))
                case measure => omega
                case rel => exact ⟨j + 1, by omega, rfl, by go_num, HR.out _⟩
              · go_wp2_with fail
                go_meet
                exact ⟨A5, c5, xs5, Lib.hid (HS5.out.bumped HO5.out hb.out)⟩
        · obtain ⟨m, hm⟩ : ∃ m, kOf xs.length xn = m := ⟨_, rfl⟩
          have f1 := HST.out.c1
          have HT := Lib.hid (take_st HST.out m hm)
          have hml : m ≤ 4096 := by have := kOf_le xs.length xn; omega
          generalize W1.heap.size = B1 at HT
          clear hm HST
          go_wp2_with (first
            | (go_at_call 15; refine HT.out.mono ?_; rintro e W3 ⟨D, cD, rfl, f3, hp3⟩; have HT3 := Lib.hid hp3; clear HT hp3)
            | (go_at_call 16; refine HT3.out.mono ?_; rintro e W4 ⟨E, cE, rfl, hp4⟩; have HT4 := Lib.hid hp4; clear HT3 hp4 f3)
            | (go_at_call 14; refine HT4.out.mono ?_; rintro e W5 ⟨rfl, A5, c5, xs5, bs5, hs5, ho5⟩; have HS5 := Lib.hid hs5; have HO5 := Lib.hid ho5; have HB5 := Lib.hid (bump_start ho5.own); clear hs5 ho5 HT4))
          go_loopg [14] m (fun g s12 wx => ∃ j : Nat, j ≤ m ∧ g = m - j ∧ s12 = .int .i64 j ∧ Hid (Bump W5 wx D m))
          case atStart => exact ⟨0, Nat.zero_le _, rfl, rfl, HB5⟩
          case round =>
            clear HB5
            obtain ⟨j, hj, rfl, rfl, hb⟩ := hrel
            by_cases hjl : j < m
            · obtain ⟨hk5, hx5⟩ := hb.out
              obtain ⟨g, cur, rfl, hl, hg, hc⟩ := hx5 (by omega)
              obtain ⟨z, hz⟩ := hc j hjl
              have cz := (hl.cell j).trans hz
              have fz := hl.frozen j
              have HR := Lib.hid (fun y => bump_round (j := j) (y := y) hk5 hl hg hc)
              clear hk5 hx5 hb hl hg hc hz
              go_wp2_with fail
              go_roundg (m - (j + 1))
              case measure => omega
              case rel => exact ⟨j + 1, by omega, rfl, by go_num, HR.out _⟩
            · go_wp2_with fail
              go_meet
              exact ⟨A5, c5, xs5, Lib.hid (HS5.out.bumped HO5.out hb.out)⟩
        · by_cases hsk : xn < 0 ∨ (xs.length : Int) < xn
          · go_upto_region 12 with fail
            have HK := Lib.hid (skip_st_no (HST.out.later (Below.refl _ _).drew) hsk)
            have f1 := HST.out.c1
            clear HST hsk
            go_region_held3 (fun W' => W'.cell? ⟨X, 1, none⟩ = some (.int .i64 xn)) (first | exact f1 | exact f3 | exact f4)
              (first
                | (go_at_call 17; refine HK.out.mono ?_; rintro e W3 ⟨rfl, f3, hp3⟩; have HK3 := Lib.hid hp3; clear HK hp3)
                | (go_at_call 18; refine HK3.out.mono ?_; rintro e W4 ⟨rfl, A5, c5, xs5, hs5⟩; have f4 := hs5.c1; have HS5 := Lib.hid hs5; clear HK3 hs5))
            all_goals
              go_wp2_with fail
              go_meet
              exact ⟨A5, c5, xs5, HS5⟩
          · go_upto_region 12 with fail
            have HK := Lib.hid (skip_st_yes (HST.out.later (Below.refl _ _).drew) (show (0 : Int) ≤ xn by omega) (show xn ≤ (xs.length : Int) by omega))
            have f1 := HST.out.c1
            clear HST hsk
            go_region_held3 (fun W' => W'.cell? ⟨X, 1, none⟩ = some (.int .i64 xn)) (first | exact f1 | exact f3 | exact f4)
              (first
                | (go_at_call 17; refine HK.out.mono ?_; rintro e W3 ⟨rfl, f3, hp3⟩; have HK3 := Lib.hid hp3; clear HK hp3)
                | (go_at_call 18; refine HK3.out.mono ?_; rintro e W4 ⟨rfl, A5, c5, xs5, hs5⟩; have f4 := hs5.c1; have HS5 := Lib.hid hs5; clear HK3 hs5))
            all_goals
              go_wp2_with fail
              go_meet
              exact ⟨A5, c5, xs5, HS5⟩
      case rest =>
        obtain ⟨A1, c1, xs1, hst1⟩ := hcut
        clear HST
        obtain ⟨m, hm⟩ : ∃ m, kOf xs1.length xn = m := ⟨_, rfl⟩
        have f1 := hst1.out.c1
        have HT := Lib.hid (peek_st hst1.out m hm)
        have hml : m ≤ 4096 := by have := kOf_le xs1.length xn; have := hst1.out.pl.has.fits; omega
        generalize wc.heap.size = B1 at HT
        clear hm hst1
        go_wp2_with (first
          | (go_at_call 19; refine HT.out.mono ?_; rintro e W3 ⟨D, cD, rfl, f3, hp3⟩; have HT3 := Lib.hid hp3; clear HT hp3)
          | (go_at_call 20; refine HT3.out.mono ?_; rintro e W4 ⟨E, cE, rfl, hp4⟩; have HT4 := Lib.hid hp4; clear HT3 hp4 f3)
          | (go_at_call 14; refine HT4.out.mono ?_; rintro e W5 ⟨rfl, A5, c5, xs5, bs5, hs5, ho5⟩; have HS5 := Lib.hid hs5; have HO5 := Lib.hid ho5; have HB5 := Lib.hid (bump_start ho5.own); clear hs5 ho5 HT4))
        go_loopg [16] m (fun g s12 wx => ∃ j : Nat, j ≤ m ∧ g = m - j ∧ s12 = .int .i64 j ∧ Hid (Bump W5 wx D m))
        case atStart => exact ⟨0, Nat.zero_le _, rfl, rfl, HB5⟩
        case round =>
          clear HB5
          obtain ⟨j, hj, rfl, rfl, hb⟩ := hrel
          by_cases hjl : j < m
          · obtain ⟨hk5, hx5⟩ := hb.out
            obtain ⟨g, cur, rfl, hl, hg, hc⟩ := hx5 (by omega)
            obtain ⟨z, hz⟩ := hc j hjl
            have cz := (hl.cell j).trans hz
            have fz := hl.frozen j
            have HR := Lib.hid (fun y => bump_round (j := j) (y := y) hk5 hl hg hc)
            clear hk5 hx5 hb hl hg hc hz
            go_wp2_with fail
            go_roundg (m - (j + 1))
            case measure => omega
            case rel => exact ⟨j + 1, by omega, rfl, by go_num, HR.out _⟩
          · go_upto_region 38 with fail
            have hs6 := HS5.out.bumped HO5.out hb.out
            obtain ⟨L, hL⟩ : ∃ L, xs5.length = L := ⟨_, rfl⟩
            have hLN : L ≤ N := by have := hs6.pl.has.fits; omega
            have g1 : wr.cell? ⟨q, 1, none⟩ = some (.slice A5 xs5.length c5) := hs6.pl.mod.head.cell 1
            rw [hL] at g1
            have HL := Lib.hid (last_st (hs6.pl.later (Below.refl _ _).drew) L hL)
            clear hs6 hL HS5 HO5 hb
            have hwrap : IntKind.i64.wrap ((N : Int) - (L : Int)) = (N : Int) - (L : Int) := IntWalk.i64_in _ (by omega)
            go_region_held3 (fun W' => W'.cell? ⟨q, 1, none⟩ = some (.slice A5 L c5)) (first | exact g1 | exact f6 | exact f7)
              (first
                | (go_at_call 19; refine HL.out.mono ?_; rintro e W6 ⟨D6, cD6, rfl, f6, hp6⟩; have HL6 := Lib.hid hp6; clear HL hp6)
                | (go_at_call 14; refine HL6.out.mono ?_; rintro e W7 ⟨rfl, f7, hp7, r21, r22, r23⟩; have HP7 := Lib.hid hp7; have R21 := Lib.hid r21; have R22 := Lib.hid r22; have R23 := Lib.hid r23; clear HL6 hp7 r21 r22 r23)
                | (go_at_call 21; refine R21.out.mono ?_; rintro e w' ⟨rfl, rfl⟩; clear R21)
                | (go_at_call 22; refine R22.out.mono ?_; rintro e w' ⟨rfl, rfl⟩; clear R22)
                | (go_at_call 23; refine R23.out.mono ?_; rintro e w' ⟨rfl, rfl⟩; clear R23))
            all_goals
              clear hwrap
              go_wp2_with fail
              go_roundg (len - (k + 1))
              case measure => omega
              case rel => exact ⟨k + 1, A5, c5, xs5, by omega, rfl, by go_num, HP7⟩
    · go_wp2_with fail
      go_ret
      exact ⟨rfl, hinv.out.below⟩

end Go.Proofs.Ythagggclhahikaa.plays
