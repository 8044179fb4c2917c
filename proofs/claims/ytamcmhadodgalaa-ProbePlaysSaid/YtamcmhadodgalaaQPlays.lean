/-
  Given for 'Rows.ProbePlaysSaid': the law's walk: it returns true at every input, and turns nothing that was there. No condition.
-/
import Derived.Test.YtamcmhadodgalaaQPlays1
import Derived.Deep.RegionHeld3
import Derived.Deep.CutBlock
import Derived.Deep.DeepCutAuto
import Derived.Deep.RegionWith
namespace Go.Proofs.Ytamcmhadodgalaa.plays
open Go.RowKit mem find pb pl model
set_option linter.unusedVariables false

set_option maxRecDepth 100000 in
set_option maxHeartbeats 1000000 in
theorem plays_great (ev : Int) (A : Option Addr) (c : Nat) (acts : List ActD) (w : World) (hm : acts.length ≤ maxLen) (ha : ActsAt w A acts) (h : greatB acts = true) :
    Calls Try.prog 3 #[.int .i64 ev, .slice A acts.length c] w fun e w' => e = .returned (.bool true) ∧ Below w.heap.size w w' := by
  have hg := great_any A c acts w hm ha
  rw [h] at hg
  have HG := Bx.mk hg
  clear hm ha h hg
  generalize acts.length = len at *
  go_enter Try.func3, Try.ntmps3
  go_wp2_with (go_at_call 7; refine HG.out.mono ?_; rintro e w' ⟨rfl, rfl⟩)
  go_ret
  exact ⟨rfl, Below.refl _ _⟩

set_option maxRecDepth 100000 in
set_option maxHeartbeats 1000000 in
theorem plays_refused (ev : Int) (A : Option Addr) (c : Nat) (acts : List ActD) (w : World) (hm : acts.length ≤ maxLen) (ha : ActsAt w A acts) (h : greatB acts = false) (hno : ev < 1 ∨ 1000 < ev) :
    Calls Try.prog 3 #[.int .i64 ev, .slice A acts.length c] w fun e w' => e = .returned (.bool true) ∧ Below w.heap.size w w' := by
  have hg := great_any A c acts w hm ha
  rw [h] at hg
  have HG := Bx.mk hg
  have H1 := Bx.mk (new_no ev w hno)
  have H2 := Bx.mk (mnew_no ev w hno)
  clear hm ha h hg hno
  generalize acts.length = len at *
  go_enter Try.func3, Try.ntmps3
  go_wp2_with (first
    | (go_at_call 7; refine HG.out.mono ?_; rintro e w' ⟨rfl, rfl⟩)
    | (go_at_call 8; refine H1.out.mono ?_; rintro e w' ⟨rfl, rfl⟩)
    | (go_at_call 9; refine H2.out.mono ?_; rintro e w' ⟨rfl, rfl⟩))
  go_ret
  exact ⟨rfl, Below.refl _ _⟩

set_option maxRecDepth 100000 in
set_option maxHeartbeats 24000000 in
theorem plays_in (ev : Int) (A : Option Addr) (c : Nat) (acts : List ActD) (w : World) (hm : acts.length ≤ maxLen) (ha : ActsAt w A acts) (h : greatB acts = false) (h1 : 1 ≤ ev) (h2 : ev ≤ 1000) :
    Calls Try.prog 3 #[.int .i64 ev, .slice A acts.length c] w fun e w' => e = .returned (.bool true) ∧ Below w.heap.size w w' := by
  have hg := great_any A c acts w hm ha
  rw [h] at hg
  have HG := Bx.mk hg
  have HAT := Bx.mk ha
  obtain ⟨h150, heach⟩ := greatB_each h
  have HE := Bx.mk heach
  obtain ⟨r, hr⟩ : ∃ r, w.heap.size = r := ⟨_, rfl⟩
  have hn1 := new_ok ev w h1 h2
  have h0 := fun w1 w2 => plays_start (w := w) (w1 := w1) (w2 := w2) (ev := ev)
  rw [hr] at hn1 h0
  have H1 := Bx.mk hn1
  have HP0 := Bx.mk h0
  clear ha hm h hg heach hn1 h0 hr
  obtain ⟨len, hlv⟩ : ∃ len, acts.length = len := ⟨_, rfl⟩
  rw [hlv] at h150 HG ⊢
  have HLV := Bx.mk hlv
  clear hlv
  go_enter Try.func3, Try.ntmps3
  go_wp2_with (go_at_call 7; refine HG.out.mono ?_; rintro e w' ⟨rfl, rfl⟩)
  refine H1.out.mono ?_
  rintro e w1 ⟨rfl, hn⟩
  have H2 := Bx.mk (mnew_ok ev w1 h1 h2)
  have HN := Bx.mk hn
  clear hn H1 HG
  go_wp2_with fail
  refine H2.out.mono ?_
  rintro e w2 ⟨rfl, hm⟩
  have H0 := Bx.mk (HP0.out _ _ HN.out hm)
  clear hm HN H2 HP0
  generalize w1.heap.size = q at H0 ⊢
  go_wp2_with fail
  go_loopg [9] len (fun g i wr => ∃ k : Nat, k ≤ len ∧ g = len - k ∧ i = .int .i64 k ∧ Bx (PlI w r q wr))
  case atStart => exact ⟨0, Nat.zero_le _, rfl, rfl, H0⟩
  case round =>
    clear H0
    obtain ⟨k, hk, rfl, rfl, hinv⟩ := hrel
    by_cases hlt : k < len
    · obtain ⟨x, hx⟩ : ∃ x, acts[k]? = some x := ⟨_, List.getElem?_eq_getElem (by rw [HLV.out]; exact hlt)⟩
      obtain ⟨ba, off, rfl, hba, hcs⟩ := (HAT.out.below hinv.out.below).ex (by rw [HLV.out]; omega)
      obtain ⟨d0, d1, d2, hk0, hk1, _, _, _⟩ := hcs k x hx
      obtain ⟨ba', off', hAe, _, hcs'⟩ := HAT.out.ex (by rw [HLV.out]; omega)
      obtain ⟨_, _, _, _, _, _, hrow, hnone⟩ := hcs' k x hx
      have h100 := HE.out k x hx
      obtain ⟨kd, xn, xA, xc, ws⟩ := x
      dsimp only at d0 d1 d2 hk0 hk1 hrow hnone h100
      obtain ⟨nw, hnw⟩ : ∃ nw, ws.length = nw := ⟨_, rfl⟩
      rw [hnw] at d2 h100 hnone
      have HROW := Bx.mk hrow
      have HNONE := Bx.mk hnone
      have HNW := Bx.mk hnw
      have HPX := Bx.mk (hinv.out.box kd xn (.slice xA nw xc))
      clear hinv hcs hx hcs' hAe hrow hnone hnw
      go_upto_block 2 with fail
      generalize wr.alloc (.cells #[.int .u8 kd, .int .i64 xn, .slice xA nw xc] 33) = W1 at HPX ⊢
      generalize wr.heap.size = X at HPX ⊢
      clear d0 d1 d2 HAT HE
      go_cut [62] (fun s62 wx => Bx (PlI w r q wx))
      case first =>
        have f1 := HPX.out.cell1
        have hcase : kd % 6 = 0 ∨ kd % 6 = 1 ∨ kd % 6 = 2 ∨ (¬ kd % 6 = 0 ∧ ¬ kd % 6 = 1 ∧ ¬ kd % 6 = 2) := by omega
        rcases hcase with hq | hq | hq | ⟨hq0, hq1, hq2⟩
        · go_upto_region 21 with fail
          have HG := Bx.mk (add_both (HPX.out.later (Below.refl _ _).drew))
          clear HPX
          go_region_held3 (fun W' => W'.cell? ⟨X, 1, none⟩ = some (.int .i64 xn)) (first | exact f1 | exact f3 | exact f5)
            (first
              | (go_at_call 10; refine HG.out.mono ?_; rintro e W3 ⟨g, rfl, f3, h2⟩; have H2 := Bx.mk h2; clear HG h2)
              | (go_at_call 11; refine H2.out.mono ?_; rintro e W4 ⟨rfl, hpx⟩; have f5 := hpx.cell1; have HPX4 := Bx.mk hpx.toI; clear H2 hpx))
          all_goals
            go_wp2_with fail
            go_meet
            exact HPX4
        · go_upto_region 24 with fail
          have HG := Bx.mk (drop_both (HPX.out.later (Below.refl _ _).drew))
          clear HPX
          go_region_held3 (fun W' => W'.cell? ⟨X, 1, none⟩ = some (.int .i64 xn)) (first | exact f1 | exact f3 | exact f5)
            (first
              | (go_at_call 12; refine HG.out.mono ?_; rintro e W3 ⟨g, rfl, f3, h2⟩; have H2 := Bx.mk h2; clear HG h2)
              | (go_at_call 13; refine H2.out.mono ?_; rintro e W4 ⟨rfl, hpx⟩; have f5 := hpx.cell1; have HPX4 := Bx.mk hpx.toI; clear H2 hpx))
          all_goals
            go_wp2_with fail
            go_meet
            exact HPX4
        · go_upto_region 27 with fail
          have HG := Bx.mk (every_both (HPX.out.later (Below.refl _ _).drew))
          clear HPX
          go_region_held3 (fun W' => W'.cell? ⟨X, 1, none⟩ = some (.int .i64 xn)) (first | exact f1 | exact f3 | exact f5)
            (first
              | (go_at_call 14; refine HG.out.mono ?_; rintro e W3 ⟨g, rfl, f3, h2⟩; have H2 := Bx.mk h2; clear HG h2)
              | (go_at_call 15; refine H2.out.mono ?_; rintro e W4 ⟨rfl, hpx⟩; have f5 := hpx.cell1; have HPX4 := Bx.mk hpx.toI; clear H2 hpx))
          all_goals
            go_wp2_with fail
            go_meet
            exact HPX4
        · have z0 : (kd % 6 == 0) = false := by simpa using hq0
          have z1 : (kd % 6 == 1) = false := by simpa using hq1
          have z2 : (kd % 6 == 2) = false := by simpa using hq2
          have hbw := HPX.out.toI.below
          have hrow1 : RowAt W1 (fun g => g < W1.heap.size) xA (I8 ws) := (HROW.out.below hbw fun g hg => hg).weak fun g hg => Nat.lt_of_lt_of_le hg hbw.size
          obtain ⟨A', c', W2, happ, hown, hb⟩ := copy_row hrow1 HNW.out HNONE.out (by omega)
          have g2 : (W1.alloc (.cells #[] 3)).cell? ⟨X, 2, none⟩ = some (.slice xA nw xc) := (HPX.out.later ((Below.refl _ W1).alloc (Nat.le_refl _) _)).cell2
          have g1 : W2.cell? ⟨X, 1, none⟩ = some (.int .i64 xn) := (HPX.out.later hb).cell1
          have HRB := Bx.mk (round_both HPX.out hb HNW.out h100 HROW.out hown)
          have HAPP := Bx.mk happ
          clear hbw hrow1 happ hown hb HPX f1 HROW HNONE HNW
          go_wp2_with (at_builtin; refine wpList_append_eq rfl _ _ 31 31 rfl rfl rfl rfl HAPP.out ?_)
          refine HRB.out.mono ?_
          rintro e W3 ⟨Ax, nx, cx, rfl, hnx, m1, m2, h2⟩
          have H2 := Bx.mk h2
          clear h2 HRB HAPP g1 g2
          go_wp2_with fail
          refine H2.out.mono ?_
          rintro e W4 ⟨Ay, cy, rfl, h3⟩
          have H3 := Bx.mk h3
          clear h3 H2 m1 m2
          go_wp2_with fail
          refine H3.out.mono ?_
          rintro e W5 ⟨rfl, m3, h4⟩
          have H4 := Bx.mk h4
          clear h4 H3
          go_wp2_with fail
          refine H4.out.mono ?_
          rintro e W6 ⟨rfl, hxi⟩
          have HX := Bx.mk hxi
          clear hxi H4 m3
          go_wp2_with fail
          go_loopg [13] nx (fun gg s13 wx => ∃ j : Nat, j ≤ nx ∧ gg = nx - j ∧ s13 = .int .i64 j ∧ Bx (XI w r q Ax nx j wx))
          case atStart => exact ⟨0, Nat.zero_le _, rfl, rfl, HX⟩
          case round =>
            clear HX
            obtain ⟨j, hj, rfl, rfl, hin⟩ := hrel
            by_cases hjn : j < nx
            · obtain ⟨D, u, rfl, k1, k2, hnext⟩ := hin.out.round hjn
              have HNX := Bx.mk hnext
              have hjj : (j : Int) < (nx : Int) := by omega
              have hj0 : (0 : Int) ≤ (j : Int) := by omega
              clear hnext hin
              go_wp2_with fail
              go_roundg (nx - (j + 1))
              case measure => omega
              case rel => exact ⟨j + 1, by omega, rfl, by go_num, HNX⟩
            · have HD := Bx.mk hin.out.toI
              clear hin
              go_wp2_with fail
              go_meet
              exact HD
      case rest =>
        have HC := Bx.mk hcut.out
        clear HPX hcut
        have HG := Bx.mk (keys_both HC.out)
        clear HC
        go_wp2_with fail
        refine HG.out.mono ?_
        rintro e W3 ⟨A3, n3, c3, rfl, hn64, h2⟩
        have H2 := Bx.mk h2
        clear HG h2
        go_wp2_with fail
        refine H2.out.mono ?_
        rintro e W4 ⟨A4, c4, rfl, h3⟩
        have H3 := Bx.mk h3
        clear H2 h3
        go_wp2_with fail
        refine H3.out.mono ?_
        rintro e W5 ⟨rfl, hxi⟩
        have HX := Bx.mk hxi
        clear H3 hxi
        go_wp2_with fail
        go_loopg [15] n3 (fun gg s15 wx => ∃ j : Nat, j ≤ n3 ∧ gg = n3 - j ∧ s15 = .int .i64 j ∧ Bx (XI w r q A3 n3 j wx))
        case atStart => exact ⟨0, Nat.zero_le _, rfl, rfl, HX⟩
        case round =>
          clear HX
          obtain ⟨j, hj, rfl, rfl, hin⟩ := hrel
          by_cases hjn : j < n3
          · obtain ⟨D, u, rfl, k1, k2, hnext⟩ := hin.out.round hjn
            have HNX := Bx.mk hnext
            have hjj : (j : Int) < (n3 : Int) := by omega
            have hj0 : (0 : Int) ≤ (j : Int) := by omega
            clear hnext hin
            go_wp2_with fail
            go_roundg (n3 - (j + 1))
            case measure => omega
            case rel => exact ⟨j + 1, by omega, rfl, by go_num, HNX⟩
          · have HD := Bx.mk hin.out.toI
            clear hin
            go_wp2_with fail
            go_roundg (len - (k + 1))
            case measure => omega
            case rel => exact ⟨k + 1, by omega, rfl, by go_num, HD⟩
    · have HB := Bx.mk hinv.out.below
      clear hinv
      go_wp2_with fail
      go_ret
      exact ⟨rfl, HB.out⟩

theorem plays_any (ev : Int) (A : Option Addr) (c : Nat) (acts : List ActD) (w : World) (hm : acts.length ≤ maxLen) (ha : ActsAt w A acts) :
    Calls Try.prog 3 #[.int .i64 ev, .slice A acts.length c] w fun e w' => e = .returned (.bool true) ∧ Below w.heap.size w w' := by
  rcases h : greatB acts with _ | _
  · by_cases he : ev < 1 ∨ 1000 < ev
    · exact plays_refused ev A c acts w hm ha h he
    · exact plays_in ev A c acts w hm ha h (by omega) (by omega)
  · exact plays_great ev A c acts w hm ha h
end Go.Proofs.Ytamcmhadodgalaa.plays
