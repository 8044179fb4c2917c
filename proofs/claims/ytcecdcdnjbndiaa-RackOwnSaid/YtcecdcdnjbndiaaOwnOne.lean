/-
  Given for 'Rows.RackOwnSaid': the law's walk. No condition.
-/
import Derived.Test.YtcecdcdnjbndiaaOwnCalls
import Derived.Deep.RegionHeld3
namespace Go.Proofs.Ytcecdcdnjbndiaa.rack
open Go.RowKit mem find
set_option linter.unusedVariables false

set_option maxRecDepth 100000 in
set_option maxHeartbeats 8000000 in
theorem own_one (size : Int) (A : Option Addr) (c : Nat) (acts : List ActD) (w : World) (hm : acts.length ≤ maxLen) (hat : ActsAt w A acts) (hok : ActsOk acts) (hnear : nearB acts = true) :
    Calls Try.prog 5 #[.int .i64 size, .bool false, .slice A acts.length c] w fun e w' => e = .returned (.bool true) ∧ Below w.heap.size w w' := by
  have HA := Lib.hid (awake_any w)
  obtain ⟨N, hN, h1, h64⟩ := size_of size
  have hlen150 := nearB_len hnear
  obtain ⟨Z1, hz1, hs1, hc1⟩ := zeros 58 _ infoBools
  obtain ⟨Z2, hz2, hs2, hc2⟩ := zeros 59 _ infoIntArr
  have HTV0 := Lib.hid (TV.start hs1 hc1 hs2 hc2)
  have HN := Lib.hid hN
  have HAT := Lib.hid hat
  have HM := Lib.hid hm
  have HOK := Lib.hid hok
  have HNR := Lib.hid hnear
  clear hN hat hm hok hnear hs1 hc1 hs2 hc2
  go_enter Try.func5, Try.ntmps5
  go_wp2_with fail
  refine HA.out.mono ?_
  rintro e w1 ⟨rfl, hb⟩
  have HB := Lib.hid hb
  clear hb HA
  go_wp2_with fail
  rw [HN.out]
  refine (new_ok N 1 1 w1 (by omega) (by omega) (by omega) (by omega) (by omega) (by omega)).mono ?_
  rintro e w2 ⟨rfl, hn⟩
  have hst := St.made hn HB.out
  have HNE := Lib.hid (near_any A c acts w2 HM.out (HAT.out.below hst.below))
  have hob : OwB w (fun g => w1.heap.size ≤ g ∧ g < w2.heap.size) w1.heap.size N 1 1 [] w2.heap.size (w2.heap.size + 1) Z1 Z2 ((w2.alloc (.cells Z1 58)).alloc (.cells Z2 59)) := by
    have hb2 : Below w2.heap.size w2 ((w2.alloc (.cells Z1 58)).alloc (.cells Z2 59)) := ((Below.refl _ _).alloc (Nat.le_refl _) _).alloc (by simp) _
    have l2 := Lies.new (w2.alloc (.cells Z1 58)) 59 Z2
    rw [World.size_alloc] at l2
    exact ⟨hst.later hb2, (Lies.new w2 58 Z1).alloc _, l2, fun e => by have := e.2; omega, fun e => by have := e.2; omega, hst.below.size, by have := hst.below.size; omega⟩
  have HOB := Lib.hid hob
  have hst0 := hst.rk.lt
  clear hn hst HB HN hob hst0
  generalize w1.heap.size = r at *
  generalize hlv : acts.length = len at *
  have HLV := Lib.hid hlv
  clear hlv
  go_wp2_with (go_at_call 24; refine HNE.out.mono ?_; rintro e w' ⟨rfl, rfl⟩; rw [HNR.out])
  have h0 : OwInv w r N 1 w2.heap.size (w2.heap.size + 1) 0 0 ((w2.alloc (.cells Z1 58)).alloc (.cells Z2 59)) := ⟨_, [], 0, Z1, Z2, by simpa using HOB.out, HTV0.out, by simp [cnt], rfl⟩
  have H0 := Lib.hid h0
  clear h0 HOB HTV0 HNE hz1 hz2
  go_loopw [12, 13] (fun s12 s13 wr => ∃ (k many : Nat), k ≤ len ∧ s13 = .int .i64 k ∧ s12 = .int .i64 many ∧ Hid (OwInv w r N 1 w2.heap.size (w2.heap.size + 1) k many wr)) (fun _ s13 _ => len - (intOf s13).toNat)
  case atStart => exact ⟨0, 0, Nat.zero_le _, rfl, rfl, H0.out⟩
  case round =>
    clear H0
    obtain ⟨k, many, hk, rfl, rfl, hinv⟩ := hrel
    generalize w2.heap.size = bT at *
    generalize hbV : bT + 1 = bV at *
    have HBV := Lib.hid hbV
    clear hbV
    obtain ⟨S, R, m, tcs, vcs, hb, htv, hcm, hmn⟩ := hinv.out.ex
    have HMN : Hid (R.length = many) := hmn
    have HTV := Lib.hid htv
    have hnN : many ≤ N := by rw [← HMN.out]; exact hb.st.rk.len
    clear hinv htv hmn
    by_cases hlt : k < len
    · obtain ⟨x, hx⟩ : ∃ x, acts[k]? = some x := ⟨_, List.getElem?_eq_getElem (by rw [HLV.out]; exact hlt)⟩
      obtain ⟨ba, off, rfl, hba, hcs⟩ := hb.st.acts HAT.out (by rw [HLV.out]; omega)
      obtain ⟨d0, d1, d2⟩ := hcs k x hx
      obtain ⟨hk0, hk1⟩ := HOK.out k x hx
      obtain ⟨hi0, hi1⟩ := nearB_each HNR.out hx
      obtain ⟨kd, xid, xv⟩ := x
      dsimp only at d0 d1 d2 hk0 hk1 hi0 hi1
      obtain ⟨y, rfl⟩ : ∃ y : Nat, xid = (y : Int) := ⟨xid.toNat, by omega⟩
      have hy4 : y ≤ 400 := by omega
      have hy5 : (0 : Int) ≤ (y : Int) := by omega
      have hy6 : (y : Int) < 1000 := by omega
      have hX1 : OwX w S r N (1 + (m : Int) * 1) 1 R bT bV tcs vcs wr.heap.size #[.int .u8 kd, .int .i64 (y : Int), .int .i64 xv] (wr.alloc (.cells #[.int .u8 kd, .int .i64 (y : Int), .int .i64 xv] 31)) :=
        ⟨hb.later ((Below.refl _ wr).alloc (Nat.le_refl _) _), Lies.new wr 31 _, fun e => by have := (hb.st.lt _ e).2; omega⟩
      have HX1 := Lib.hid hX1
      have x2 : (wr.alloc (.cells #[.int .u8 kd, .int .i64 (y : Int), .int .i64 xv] 31)).cell? ⟨wr.heap.size, 2, none⟩ = some (.int .i64 xv) := hX1.x.cell 2
      have x1 : (wr.alloc (.cells #[.int .u8 kd, .int .i64 (y : Int), .int .i64 xv] 31)).cell? ⟨wr.heap.size, 1, none⟩ = some (.int .i64 (y : Int)) := hX1.x.cell 1
      clear hX1 hb hcs hx
      have hcase : kd % 6 = 0 ∨ kd % 6 = 1 ∨ kd % 6 = 2 ∨ kd % 6 = 3 ∨ kd % 6 = 4 ∨ kd % 6 = 5 := by omega
      rcases hcase with hq | hq | hq | hq | hq | hq
      · go_wp2_with fail
        by_cases hfull : many = N
        · subst hfull
          have HF := Lib.hid (give_full HX1.out.b.st.rk HMN.out xv)
          refine HF.out.mono ?_
          rintro e w2 ⟨rfl, hb2⟩
          have hx2 := HX1.out.later hb2
          have HLEN := Lib.hid (len_any hx2.b.st.rk)
          have HI3 : Hid (OwInv w r many 1 bT bV (k + 1) many w2) := ⟨_, R, m, tcs, vcs, hx2.b, HTV.out, by have := hcm; omega, HMN.out⟩
          rw [HMN.out] at HLEN
          clear hx2 hb2 HF
          go_wp2_with (go_at_call 20; refine HLEN.out.mono ?_; rintro e w' ⟨rfl, rfl⟩)
          go_roundw
          case rel => exact ⟨k + 1, many, by omega, by go_num, rfl, HI3⟩
          case measure => simp [intOf]; omega
        · have hmlt : many < N := by omega
          have hmlt2 : (many : Int) < (N : Int) := by omega
          refine (give_ow HX1.out hcm (by omega) (by omega) (by omega) (by rw [HMN.out]; exact hmlt) xv).mono ?_
          rintro e w2 ⟨y, S2, m2, hy1, hy2, rfl, hno, hx2, hcm2⟩
          have hx3 := hx2.setT y (.bool true)
          have hx4 := hx3.setV y (.int .i64 xv)
          have hlen4 : (insR ((y : Int), xv) R).length = many + 1 := by rw [length_insR, HMN.out]
          have HLEN := Lib.hid (len_any hx4.b.st.rk)
          rw [hlen4] at HLEN
          have HI3 : Hid (OwInv w r N 1 bT bV (k + 1) (many + 1) ((w2.setCell ⟨bT, y, none⟩ (.bool true)).setCell ⟨bV, y, none⟩ (.int .i64 xv))) := ⟨_, _, m2, _, _, hx4.b, HTV.out.ins y xv (by omega) hno, by omega, hlen4⟩
          obtain ⟨vo, hvo, _⟩ := HTV.out.v y (by omega)
          have c1 : w2.cell? ⟨bT, y, none⟩ = some (.bool false) := (hx2.b.t.cell y).trans ((HTV.out.t y (by omega)).trans (by rw [hasB_false hno]))
          have fz1 := hx2.b.t.frozen y
          have c2 : (w2.setCell ⟨bT, y, none⟩ (.bool true)).cell? ⟨wr.heap.size, 2, none⟩ = some (.int .i64 xv) := hx3.x.cell 2
          have c3 : (w2.setCell ⟨bT, y, none⟩ (.bool true)).cell? ⟨bV, y, none⟩ = some (.int .i64 vo) := (hx3.b.v.cell y).trans hvo
          have fz3 := hx3.b.v.frozen y
          clear hx2 hx3 hx4 hcm2 hno hvo hlen4
          go_wp2_with (go_at_call 20; refine HLEN.out.mono ?_; rintro e w' ⟨rfl, rfl⟩)
          go_roundw
          case rel => exact ⟨k + 1, many + 1, by omega, by go_num, by go_num, HI3⟩
          case measure => simp [intOf]; omega
      · go_wp2_with fail
        by_cases hfull : many = N
        · subst hfull
          have HF := Lib.hid (give_full HX1.out.b.st.rk HMN.out xv)
          refine HF.out.mono ?_
          rintro e w2 ⟨rfl, hb2⟩
          have hx2 := HX1.out.later hb2
          have HLEN := Lib.hid (len_any hx2.b.st.rk)
          have HI3 : Hid (OwInv w r many 1 bT bV (k + 1) many w2) := ⟨_, R, m, tcs, vcs, hx2.b, HTV.out, by have := hcm; omega, HMN.out⟩
          rw [HMN.out] at HLEN
          clear hx2 hb2 HF
          go_wp2_with (go_at_call 20; refine HLEN.out.mono ?_; rintro e w' ⟨rfl, rfl⟩)
          go_roundw
          case rel => exact ⟨k + 1, many, by omega, by go_num, rfl, HI3⟩
          case measure => simp [intOf]; omega
        · have hmlt : many < N := by omega
          have hmlt2 : (many : Int) < (N : Int) := by omega
          refine (give_ow HX1.out hcm (by omega) (by omega) (by omega) (by rw [HMN.out]; exact hmlt) xv).mono ?_
          rintro e w2 ⟨y, S2, m2, hy1, hy2, rfl, hno, hx2, hcm2⟩
          have hx3 := hx2.setT y (.bool true)
          have hx4 := hx3.setV y (.int .i64 xv)
          have hlen4 : (insR ((y : Int), xv) R).length = many + 1 := by rw [length_insR, HMN.out]
          have HLEN := Lib.hid (len_any hx4.b.st.rk)
          rw [hlen4] at HLEN
          have HI3 : Hid (OwInv w r N 1 bT bV (k + 1) (many + 1) ((w2.setCell ⟨bT, y, none⟩ (.bool true)).setCell ⟨bV, y, none⟩ (.int .i64 xv))) := ⟨_, _, m2, _, _, hx4.b, HTV.out.ins y xv (by omega) hno, by omega, hlen4⟩
          obtain ⟨vo, hvo, _⟩ := HTV.out.v y (by omega)
          have c1 : w2.cell? ⟨bT, y, none⟩ = some (.bool false) := (hx2.b.t.cell y).trans ((HTV.out.t y (by omega)).trans (by rw [hasB_false hno]))
          have fz1 := hx2.b.t.frozen y
          have c2 : (w2.setCell ⟨bT, y, none⟩ (.bool true)).cell? ⟨wr.heap.size, 2, none⟩ = some (.int .i64 xv) := hx3.x.cell 2
          have c3 : (w2.setCell ⟨bT, y, none⟩ (.bool true)).cell? ⟨bV, y, none⟩ = some (.int .i64 vo) := (hx3.b.v.cell y).trans hvo
          have fz3 := hx3.b.v.frozen y
          clear hx2 hx3 hx4 hcm2 hno hvo hlen4
          go_wp2_with (go_at_call 20; refine HLEN.out.mono ?_; rintro e w' ⟨rfl, rfl⟩)
          go_roundw
          case rel => exact ⟨k + 1, many + 1, by omega, by go_num, by go_num, HI3⟩
          case measure => simp [intOf]; omega
      · by_cases hy0 : y = 0
        · subst hy0
          have HH := Lib.hid (hold_zero HX1.out xv)
          go_wp2_with fail
          refine HH.out.mono ?_
          rintro e w2 ⟨rfl, hb2⟩
          have hx2 := HX1.out.later hb2
          have c0 : w2.cell? ⟨wr.heap.size, 1, none⟩ = some (.int .i64 0) := hx2.x.cell 1
          have HLEN := Lib.hid (len_any hx2.b.st.rk)
          have HI3 : Hid (OwInv w r N 1 bT bV (k + 1) many w2) := ⟨_, R, m, tcs, vcs, hx2.b, HTV.out, by have := hcm; omega, HMN.out⟩
          rw [HMN.out] at HLEN
          clear hx2 hb2 HH
          go_wp2_with (go_at_call 20; refine HLEN.out.mono ?_; rintro e w' ⟨rfl, rfl⟩)
          go_roundw
          case rel => exact ⟨k + 1, many, by omega, by go_num, rfl, HI3⟩
          case measure => simp [intOf]; omega
        · have hy1 : (0 : Int) < (y : Int) := by omega
          by_cases hin : Has R y
          · have HH := Lib.hid (hold_used HX1.out.b.st.rk hin xv)
            have ht : tcs[y]? = some (.bool true) := (HTV.out.t y (by omega)).trans (by rw [hasB_true hin])
            go_wp2_with fail
            refine HH.out.mono ?_
            rintro e w2 ⟨rfl, hb2⟩
            have hx2 := HX1.out.later hb2
            have c0 : w2.cell? ⟨wr.heap.size, 1, none⟩ = some (.int .i64 (y : Int)) := hx2.x.cell 1
            have c1 : w2.cell? ⟨bT, y, none⟩ = some (.bool true) := (hx2.b.t.cell y).trans ht
            have HLEN := Lib.hid (len_any hx2.b.st.rk)
            have HI3 : Hid (OwInv w r N 1 bT bV (k + 1) many w2) := ⟨_, R, m, tcs, vcs, hx2.b, HTV.out, by have := hcm; omega, HMN.out⟩
            rw [HMN.out] at HLEN
            clear hx2 hb2 HH ht hin
            go_wp2_with (go_at_call 20; refine HLEN.out.mono ?_; rintro e w' ⟨rfl, rfl⟩)
            go_roundw
            case rel => exact ⟨k + 1, many, by omega, by go_num, rfl, HI3⟩
            case measure => simp [intOf]; omega
          · have ht : tcs[y]? = some (.bool false) := (HTV.out.t y (by omega)).trans (by rw [hasB_false hin])
            by_cases hfull : many = N
            · subst hfull
              have HH := Lib.hid (hold_full HX1.out.b.st.rk hin (by omega) (by omega) HMN.out xv)
              go_wp2_with fail
              refine HH.out.mono ?_
              rintro e w2 ⟨rfl, hb2⟩
              have hx2 := HX1.out.later hb2
              have c0 : w2.cell? ⟨wr.heap.size, 1, none⟩ = some (.int .i64 (y : Int)) := hx2.x.cell 1
              have c1 : w2.cell? ⟨bT, y, none⟩ = some (.bool false) := (hx2.b.t.cell y).trans ht
              have HLEN := Lib.hid (len_any hx2.b.st.rk)
              have HI3 : Hid (OwInv w r many 1 bT bV (k + 1) many w2) := ⟨_, R, m, tcs, vcs, hx2.b, HTV.out, by have := hcm; omega, HMN.out⟩
              rw [HMN.out] at HLEN
              clear hx2 hb2 HH ht hin
              go_wp2_with (go_at_call 20; refine HLEN.out.mono ?_; rintro e w' ⟨rfl, rfl⟩)
              go_roundw
              case rel => exact ⟨k + 1, many, by omega, by go_num, rfl, HI3⟩
              case measure => simp [intOf]; omega
            · have hmlt : many < N := by omega
              have hmlt2 : (many : Int) < (N : Int) := by omega
              have HH := Lib.hid (hold_ok HX1.out.b.st.rk hin (by omega) (by omega) (by rw [HMN.out]; exact hmlt) xv)
              go_wp2_with fail
              refine HH.out.mono ?_
              rintro e w2 ⟨rfl, hd2⟩
              obtain ⟨S2, hx2⟩ := HX1.out.did hd2
              have hx3 := hx2.setT y (.bool true)
              have hx4 := hx3.setV y (.int .i64 xv)
              have hlen4 : (insR ((y : Int), xv) R).length = many + 1 := by rw [length_insR, HMN.out]
              have HLEN := Lib.hid (len_any hx4.b.st.rk)
              rw [hlen4] at HLEN
              have HI3 : Hid (OwInv w r N 1 bT bV (k + 1) (many + 1) ((w2.setCell ⟨bT, y, none⟩ (.bool true)).setCell ⟨bV, y, none⟩ (.int .i64 xv))) := ⟨_, _, m, _, _, hx4.b, HTV.out.ins y xv (by omega) hin, cnt_after_ins _ hcm, hlen4⟩
              obtain ⟨vo, hvo, _⟩ := HTV.out.v y (by omega)
              have c0 : w2.cell? ⟨wr.heap.size, 1, none⟩ = some (.int .i64 (y : Int)) := hx2.x.cell 1
              have c1 : w2.cell? ⟨bT, y, none⟩ = some (.bool false) := (hx2.b.t.cell y).trans ht
              have fz1 := hx2.b.t.frozen y
              have c2 : (w2.setCell ⟨bT, y, none⟩ (.bool true)).cell? ⟨wr.heap.size, 1, none⟩ = some (.int .i64 (y : Int)) := hx3.x.cell 1
              have c4 : (w2.setCell ⟨bT, y, none⟩ (.bool true)).cell? ⟨wr.heap.size, 2, none⟩ = some (.int .i64 xv) := hx3.x.cell 2
              have c3 : (w2.setCell ⟨bT, y, none⟩ (.bool true)).cell? ⟨bV, y, none⟩ = some (.int .i64 vo) := (hx3.b.v.cell y).trans hvo
              have fz3 := hx3.b.v.frozen y
              clear hx2 hx3 hx4 hin hvo hlen4 hd2 HH ht
              go_wp2_with (go_at_call 20; refine HLEN.out.mono ?_; rintro e w' ⟨rfl, rfl⟩)
              go_roundw
              case rel => exact ⟨k + 1, many + 1, by omega, by go_num, by go_num, HI3⟩
              case measure => simp [intOf]; omega
      · have hx1d := HX1.out.later (Below.refl _ _).drew
        by_cases hin : Has R y
        · have ht : tcs[y]? = some (.bool true) := (HTV.out.t y (by omega)).trans (by rw [hasB_true hin])
          have HH := Lib.hid (set_ow_in hx1d hin ht)
          have g1 := HX1.out.loads ht
          clear hx1d ht hin
          go_wp2_with fail
          go_region_held3 (fun W' => Loads bT wr.heap.size y kd xv true W') (first | exact g1 | exact f1)
            (first | (go_at_call 13; refine HH.out.mono ?_; rintro e w2 ⟨rfl, f1, hrest⟩; have HRS := Lib.hid hrest; clear hrest HH))
          all_goals
            obtain ⟨S2, hx2⟩ := HRS.out
            have hx4 := hx2.setV y (.int .i64 xv)
            have HLEN := Lib.hid (len_any hx4.b.st.rk)
            rw [length_setR, HMN.out] at HLEN
            have HI3 : Hid (OwInv w r N 1 bT bV (k + 1) many (w2.setCell ⟨bV, y, none⟩ (.int .i64 xv))) := ⟨_, _, m, _, _, hx4.b, HTV.out.set y xv (by omega), cnt_after_set _ _ hcm, by rw [length_setR]; exact HMN.out⟩
            obtain ⟨vo, hvo, _⟩ := HTV.out.v y (by omega)
            obtain ⟨k1, k2, k3⟩ := f1
            have c3 : w2.cell? ⟨bV, y, none⟩ = some (.int .i64 vo) := (hx2.b.v.cell y).trans hvo
            have fz3 := hx2.b.v.frozen y
            clear hx2 hx4 hvo g1 HRS
            go_wp2_with (go_at_call 20; refine HLEN.out.mono ?_; rintro e w' ⟨rfl, rfl⟩)
            go_roundw
            case rel => exact ⟨k + 1, many, by omega, by go_num, rfl, HI3⟩
            case measure => simp [intOf]; omega
        · have ht : tcs[y]? = some (.bool false) := (HTV.out.t y (by omega)).trans (by rw [hasB_false hin])
          have HH := Lib.hid (set_ow_out hx1d hin ht)
          have g1 := HX1.out.loads ht
          clear hx1d ht hin
          go_wp2_with fail
          go_region_held3 (fun W' => Loads bT wr.heap.size y kd xv false W') (first | exact g1 | exact f1)
            (first | (go_at_call 13; refine HH.out.mono ?_; rintro e w2 ⟨rfl, f1, hrest⟩; have HRS := Lib.hid hrest; clear hrest HH))
          all_goals
            have hx2 := HRS.out
            have HLEN := Lib.hid (len_any hx2.b.st.rk)
            have HI3 : Hid (OwInv w r N 1 bT bV (k + 1) many w2) := ⟨_, R, m, tcs, vcs, hx2.b, HTV.out, by have := hcm; omega, HMN.out⟩
            rw [HMN.out] at HLEN
            obtain ⟨k1, k2, k3⟩ := f1
            clear hx2 g1 HRS
            go_wp2_with (go_at_call 20; refine HLEN.out.mono ?_; rintro e w' ⟨rfl, rfl⟩)
            go_roundw
            case rel => exact ⟨k + 1, many, by omega, by go_num, rfl, HI3⟩
            case measure => simp [intOf]; omega
      · have hx1d := HX1.out.later (Below.refl _ _).drew
        by_cases hin : Has R y
        · have ht : tcs[y]? = some (.bool true) := (HTV.out.t y (by omega)).trans (by rw [hasB_true hin])
          have HH := Lib.hid (drop_ow_in hx1d hin ht)
          have g1 := HX1.out.loads ht
          have hpos := has_length hin
          rw [HMN.out] at hpos
          clear hx1d ht hin
          go_wp2_with fail
          go_region_held3 (fun W' => Loads bT wr.heap.size y kd xv true W') (first | exact g1 | exact f1)
            (first | (go_at_call 15; refine HH.out.mono ?_; rintro e w2 ⟨rfl, f1, hrest⟩; have HRS := Lib.hid hrest; clear hrest HH))
          all_goals
            obtain ⟨⟨S2, hx2⟩, hlen⟩ := HRS.out
            have hx4 := hx2.setT y (.bool false)
            rw [HMN.out] at hlen
            have HLEN := Lib.hid (len_any hx4.b.st.rk)
            rw [hlen] at HLEN
            have HI3 : Hid (OwInv w r N 1 bT bV (k + 1) (many - 1) (w2.setCell ⟨bT, y, none⟩ (.bool false))) := ⟨_, _, m, _, _, hx4.b, HTV.out.del y (by omega), cnt_after_del _ hcm, hlen⟩
            obtain ⟨k1, k2, k3⟩ := f1
            have fz1 := hx2.b.t.frozen y
            have hm1 : ((many - 1 : Nat) : Int) = (many : Int) - 1 := by omega
            rw [hm1] at HLEN
            clear hx2 hx4 g1 HRS hlen hm1
            go_wp2_with (go_at_call 20; refine HLEN.out.mono ?_; rintro e w' ⟨rfl, rfl⟩)
            go_roundw
            case rel => exact ⟨k + 1, many - 1, by omega, by go_num, (by rw [show ((many - 1 : Nat) : Int) = (many : Int) - 1 by omega]), HI3⟩
            case measure => simp [intOf]; omega
        · have ht : tcs[y]? = some (.bool false) := (HTV.out.t y (by omega)).trans (by rw [hasB_false hin])
          have HH := Lib.hid (drop_ow_out hx1d hin ht)
          have g1 := HX1.out.loads ht
          clear hx1d ht hin
          go_wp2_with fail
          go_region_held3 (fun W' => Loads bT wr.heap.size y kd xv false W') (first | exact g1 | exact f1)
            (first | (go_at_call 15; refine HH.out.mono ?_; rintro e w2 ⟨rfl, f1, hrest⟩; have HRS := Lib.hid hrest; clear hrest HH))
          all_goals
            have hx2 := HRS.out
            have HLEN := Lib.hid (len_any hx2.b.st.rk)
            have HI3 : Hid (OwInv w r N 1 bT bV (k + 1) many w2) := ⟨_, R, m, tcs, vcs, hx2.b, HTV.out, by have := hcm; omega, HMN.out⟩
            rw [HMN.out] at HLEN
            obtain ⟨k1, k2, k3⟩ := f1
            clear hx2 g1 HRS
            go_wp2_with (go_at_call 20; refine HLEN.out.mono ?_; rintro e w' ⟨rfl, rfl⟩)
            go_roundw
            case rel => exact ⟨k + 1, many, by omega, by go_num, rfl, HI3⟩
            case measure => simp [intOf]; omega
      · have hx1d := HX1.out.later (Below.refl _ _).drew
        by_cases hin : Has R y
        · have ht : tcs[y]? = some (.bool true) := (HTV.out.t y (by omega)).trans (by rw [hasB_true hin])
          have HH := Lib.hid (drop_ow_in hx1d hin ht)
          have g1 := HX1.out.loads ht
          have hpos := has_length hin
          rw [HMN.out] at hpos
          clear hx1d ht hin
          go_wp2_with fail
          go_region_held3 (fun W' => Loads bT wr.heap.size y kd xv true W') (first | exact g1 | exact f1)
            (first | (go_at_call 15; refine HH.out.mono ?_; rintro e w2 ⟨rfl, f1, hrest⟩; have HRS := Lib.hid hrest; clear hrest HH))
          all_goals
            obtain ⟨⟨S2, hx2⟩, hlen⟩ := HRS.out
            have hx4 := hx2.setT y (.bool false)
            rw [HMN.out] at hlen
            have HLEN := Lib.hid (len_any hx4.b.st.rk)
            rw [hlen] at HLEN
            have HI3 : Hid (OwInv w r N 1 bT bV (k + 1) (many - 1) (w2.setCell ⟨bT, y, none⟩ (.bool false))) := ⟨_, _, m, _, _, hx4.b, HTV.out.del y (by omega), cnt_after_del _ hcm, hlen⟩
            obtain ⟨k1, k2, k3⟩ := f1
            have fz1 := hx2.b.t.frozen y
            have hm1 : ((many - 1 : Nat) : Int) = (many : Int) - 1 := by omega
            rw [hm1] at HLEN
            clear hx2 hx4 g1 HRS hlen hm1
            go_wp2_with (go_at_call 20; refine HLEN.out.mono ?_; rintro e w' ⟨rfl, rfl⟩)
            go_roundw
            case rel => exact ⟨k + 1, many - 1, by omega, by go_num, (by rw [show ((many - 1 : Nat) : Int) = (many : Int) - 1 by omega]), HI3⟩
            case measure => simp [intOf]; omega
        · have ht : tcs[y]? = some (.bool false) := (HTV.out.t y (by omega)).trans (by rw [hasB_false hin])
          have HH := Lib.hid (drop_ow_out hx1d hin ht)
          have g1 := HX1.out.loads ht
          clear hx1d ht hin
          go_wp2_with fail
          go_region_held3 (fun W' => Loads bT wr.heap.size y kd xv false W') (first | exact g1 | exact f1)
            (first | (go_at_call 15; refine HH.out.mono ?_; rintro e w2 ⟨rfl, f1, hrest⟩; have HRS := Lib.hid hrest; clear hrest HH))
          all_goals
            have hx2 := HRS.out
            have HLEN := Lib.hid (len_any hx2.b.st.rk)
            have HI3 : Hid (OwInv w r N 1 bT bV (k + 1) many w2) := ⟨_, R, m, tcs, vcs, hx2.b, HTV.out, by have := hcm; omega, HMN.out⟩
            rw [HMN.out] at HLEN
            obtain ⟨k1, k2, k3⟩ := f1
            clear hx2 g1 HRS
            go_wp2_with (go_at_call 20; refine HLEN.out.mono ?_; rintro e w' ⟨rfl, rfl⟩)
            go_roundw
            case rel => exact ⟨k + 1, many, by omega, by go_num, rfl, HI3⟩
            case measure => simp [intOf]; omega
    · obtain rfl : k = len := by omega
      have H1T := Lib.hid hb.st
      have c0 := hb.t
      have c1 := hb.v
      have HT := Lib.hid hb.t
      have HV := Lib.hid hb.v
      clear hb c0 c1
      go_wp2_with fail
      go_loopw [18] (fun s18 wx => ∃ j : Nat, j ≤ 1000 ∧ s18 = .int .i64 j ∧ Hid (Below wr.heap.size wr wx)) (fun s18 _ => 1000 - (intOf s18).toNat)
      case atStart => exact ⟨0, by omega, rfl, Below.refl _ _⟩
      case round =>
        obtain ⟨j, hj, rfl, hbx⟩ := hrel
        by_cases hj1 : j < 1000
        · have hj2 : (j : Int) < 1000 := by omega
          have hj3 : (0 : Int) ≤ (j : Int) := by omega
          have hrk := H1T.out.rk.below hbx.out
          obtain ⟨x, hx, hxu⟩ := HTV.out.v j hj1
          by_cases hin : Has R j
          · obtain ⟨i, u, hi⟩ := has_get hin
            have hux := hxu u (List.mem_of_getElem? hi)
            subst hux
            have ht : tcs[j]? = some (.bool true) := (HTV.out.t j hj1).trans (by rw [hasB_true hin])
            have HG := Lib.hid (get_in hrk hi)
            clear hrk hi hxu hin
            go_wp2_with fail
            refine HG.out.mono ?_
            rintro e w3 ⟨rfl, hb3⟩
            have hb4 := hbx.out.trans (hb3.mono hbx.out.size)
            have k1 : w3.cell? ⟨bT, j, none⟩ = some (.bool true) := ((HT.out.below hb4 HT.out.lt).cell j).trans ht
            have k2 : w3.cell? ⟨bV, j, none⟩ = some (.int .i64 u) := ((HV.out.below hb4 HV.out.lt).cell j).trans hx
            have HB4 := Lib.hid hb4
            clear hb3 hb4 hx ht HG hbx
            go_wp2_with fail
            go_roundw
            case rel => exact ⟨j + 1, by omega, by go_num, HB4⟩
            case measure => simp [intOf]; omega
          · have ht : tcs[j]? = some (.bool false) := (HTV.out.t j hj1).trans (by rw [hasB_false hin])
            have HG := Lib.hid (get_out hrk hin)
            clear hrk hxu hin hx
            go_wp2_with fail
            refine HG.out.mono ?_
            rintro e w3 ⟨rfl, hb3⟩
            have hb4 := hbx.out.trans (hb3.mono hbx.out.size)
            have k1 : w3.cell? ⟨bT, j, none⟩ = some (.bool false) := ((HT.out.below hb4 HT.out.lt).cell j).trans ht
            have HB4 := Lib.hid hb4
            clear hb3 hb4 ht HG hbx
            go_wp2_with fail
            go_roundw
            case rel => exact ⟨j + 1, by omega, by go_num, HB4⟩
            case measure => simp [intOf]; omega
        · obtain rfl : j = 1000 := by omega
          have hfin := H1T.out.below.trans (hbx.out.mono H1T.out.below.size)
          have HFIN := Lib.hid hfin
          clear hfin
          go_wp2_with fail
          go_ret
          exact ⟨rfl, HFIN.out⟩

end Go.Proofs.Ytcecdcdnjbndiaa.rack
