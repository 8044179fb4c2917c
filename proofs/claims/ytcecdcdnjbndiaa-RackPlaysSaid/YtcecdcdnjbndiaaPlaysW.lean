/-
  Given for 'Rows.RackPlaysSaid': the law's walk: it returns true at every input, and turns nothing that was there. No condition.
-/
import Derived.Test.YtcecdcdnjbndiaaPlays2
import Derived.Deep.RegionHeld3
import Derived.Deep.CutBlock
import Derived.Deep.DeepCutAuto
import Derived.Deep.RegionWith
namespace Go.Proofs.Ytcecdcdnjbndiaa.plays
open Go.RowKit mem find rack model
set_option linter.unusedVariables false

set_option maxRecDepth 100000 in
set_option maxHeartbeats 1000000 in
theorem plays_long (size first step : Int) (A : Option Addr) (c : Nat) (acts : List ActD) (w : World) (hm : acts.length ≤ maxLen) (h : 150 < acts.length) :
    Calls Try.prog 3 #[.int .i64 size, .int .i64 first, .int .i64 step, .slice A acts.length c] w fun e w' => e = .returned (.bool true) ∧ Below w.heap.size w w' := by
  unfold maxLen at hm
  generalize acts.length = len at *
  go_enter Try.func3, Try.ntmps3
  go_wp2_with fail
  go_ret
  exact ⟨rfl, Below.refl _ _⟩

set_option maxRecDepth 100000 in
set_option maxHeartbeats 1000000 in
theorem plays_refused (size first step : Int) (A : Option Addr) (c : Nat) (acts : List ActD) (w : World) (h : acts.length ≤ 150) (hno : (size < 1 ∨ 64 < size) ∨ (first < 1 ∨ 1000 < first) ∨ (step < 1 ∨ 1000 < step)) :
    Calls Try.prog 3 #[.int .i64 size, .int .i64 first, .int .i64 step, .slice A acts.length c] w fun e w' => e = .returned (.bool true) ∧ Below w.heap.size w w' := by
  generalize acts.length = len at *
  have H1 := Lib.hid (new_no size first step w hno)
  have H2 := Lib.hid (mnew_no size first step w hno)
  clear hno
  go_enter Try.func3, Try.ntmps3
  go_wp2_with (first
    | (go_at_call 7; refine H1.out.mono ?_; rintro e w' ⟨rfl, rfl⟩)
    | (go_at_call 8; refine H2.out.mono ?_; rintro e w' ⟨rfl, rfl⟩))
  go_ret
  exact ⟨rfl, Below.refl _ _⟩

set_option maxRecDepth 100000 in
set_option maxHeartbeats 24000000 in
theorem plays_in (N : Nat) (first step : Int) (A : Option Addr) (c : Nat) (acts : List ActD) (w : World) (hat : ActsAt w A acts) (hok : ActsOk acts) (h150 : acts.length ≤ 150) (hN1 : 1 ≤ N) (hN2 : N ≤ 64) (hf1 : 1 ≤ first) (hf2 : first ≤ 1000) (hs1 : 1 ≤ step) (hs2 : step ≤ 1000) :
    Calls Try.prog 3 #[.int .i64 (N : Int), .int .i64 first, .int .i64 step, .slice A acts.length c] w fun e w' => e = .returned (.bool true) ∧ Below w.heap.size w w' := by
  have HAT := Lib.hid hat
  have HOK := Lib.hid hok
  obtain ⟨r, hr⟩ : ∃ r, w.heap.size = r := ⟨_, rfl⟩
  have h1 := new_ok N first step w (by omega) (by omega) hf1 hf2 hs1 hs2
  have h0 := fun w1 w2 => plays_start (w := w) (w1 := w1) (w2 := w2) (N := N) (first := first) (st := step)
  rw [hr] at h1 h0
  have H1 := Lib.hid h1
  have HP0 := Lib.hid h0
  clear hat hok h1 h0 hr
  obtain ⟨len, hlv⟩ : ∃ len, acts.length = len := ⟨_, rfl⟩
  rw [hlv] at h150 ⊢
  have HLV := Lib.hid hlv
  clear hlv
  go_enter Try.func3, Try.ntmps3
  go_wp2_with fail
  refine H1.out.mono ?_
  rintro e w1 ⟨rfl, hn⟩
  have H2 := Lib.hid (mnew_ok N first step w1 (by omega) (by omega) hf1 hf2 hs1 hs2)
  have HN := Lib.hid hn
  clear hn H1
  go_wp2_with fail
  refine H2.out.mono ?_
  rintro e w2 ⟨rfl, hm⟩
  have H0 := Lib.hid (HP0.out _ _ HN.out hm)
  clear hm HN H2 HP0
  generalize w1.heap.size = q at H0 ⊢
  go_wp2_with fail
  go_loopg [13] len (fun g i wr => ∃ k : Nat, k ≤ len ∧ g = len - k ∧ i = .int .i64 k ∧ Hid (PlI w r q N first step k wr))
  case atStart => exact ⟨0, Nat.zero_le _, rfl, rfl, H0⟩
  case round =>
    clear H0
    obtain ⟨k, hk, rfl, rfl, hinv⟩ := hrel
    by_cases hlt : k < len
    · obtain ⟨x, hx⟩ : ∃ x, acts[k]? = some x := ⟨_, List.getElem?_eq_getElem (by rw [HLV.out]; exact hlt)⟩
      obtain ⟨ba, off, rfl, hba, hcs⟩ := (HAT.out.below hinv.out.below) (by rw [HLV.out]; omega)
      obtain ⟨d0, d1, d2⟩ := hcs k x hx
      obtain ⟨hk0, hk1⟩ := HOK.out k x hx
      obtain ⟨kd, xid, xv⟩ := x
      dsimp only at d0 d1 d2 hk0 hk1
      have HPX := Lib.hid (hinv.out.box kd xid xv)
      clear hinv hcs hx
      go_upto_block 2 with fail
      generalize wr.alloc (.cells #[.int .u8 kd, .int .i64 xid, .int .i64 xv] 31) = W1 at HPX ⊢
      generalize wr.heap.size = X at HPX ⊢
      clear d0 d1 d2 HOK HAT
      go_cut [80] (fun s80 wx => Hid (PlX w r q N first step (k + 1) X kd xid xv wx))
      case first =>
        obtain ⟨f1, f2⟩ := HPX.out.ld
        have hcase : kd % 6 = 0 ∨ kd % 6 = 1 ∨ kd % 6 = 2 ∨ kd % 6 = 3 ∨ kd % 6 = 4 ∨ kd % 6 = 5 := by omega
        rcases hcase with hq | hq | hq | hq | hq | hq
        · have HG := Lib.hid (give_both HPX.out (by omega) hf1 hf2 hs1 hs2)
          clear HPX
          go_wp2_with (first
            | (go_at_call 9; refine HG.out.mono ?_; rintro e W3 ⟨y, g, rfl, ⟨f3, f4⟩, h2⟩; have H2 := Lib.hid h2; clear HG h2)
            | (go_at_call 10; refine H2.out.mono ?_; rintro e W4 ⟨rfl, hpx⟩; have HPX4 := Lib.hid hpx; clear H2 hpx))
          go_meet
          exact HPX4
        · have HG := Lib.hid (give_both HPX.out (by omega) hf1 hf2 hs1 hs2)
          clear HPX
          go_wp2_with (first
            | (go_at_call 9; refine HG.out.mono ?_; rintro e W3 ⟨y, g, rfl, ⟨f3, f4⟩, h2⟩; have H2 := Lib.hid h2; clear HG h2)
            | (go_at_call 10; refine H2.out.mono ?_; rintro e W4 ⟨rfl, hpx⟩; have HPX4 := Lib.hid hpx; clear H2 hpx))
          go_meet
          exact HPX4
        · go_upto_region 21 with fail
          have HG := Lib.hid (hold_both (HPX.out.later (Below.refl _ _).drew))
          clear HPX
          go_region_held3 (fun W' => W'.cell? ⟨X, 1, none⟩ = some (.int .i64 xid) ∧ W'.cell? ⟨X, 2, none⟩ = some (.int .i64 xv)) (first | exact ⟨f1, f2⟩ | exact ⟨f3, f4⟩ | exact ⟨f5, f6⟩)
            (first
              | (go_at_call 11; refine HG.out.mono ?_; rintro e W3 ⟨g, rfl, ⟨f3, f4⟩, h2⟩; have H2 := Lib.hid h2; clear HG h2)
              | (go_at_call 12; refine H2.out.mono ?_; rintro e W4 ⟨rfl, hpx⟩; obtain ⟨f5, f6⟩ := hpx.ld; have HPX4 := Lib.hid hpx; clear H2 hpx))
          all_goals
            go_wp2_with fail
            go_meet
            exact HPX4
        · go_upto_region 24 with fail
          have HG := Lib.hid (set_both (HPX.out.later (Below.refl _ _).drew))
          clear HPX
          go_region_held3 (fun W' => W'.cell? ⟨X, 1, none⟩ = some (.int .i64 xid) ∧ W'.cell? ⟨X, 2, none⟩ = some (.int .i64 xv)) (first | exact ⟨f1, f2⟩ | exact ⟨f3, f4⟩ | exact ⟨f5, f6⟩)
            (first
              | (go_at_call 13; refine HG.out.mono ?_; rintro e W3 ⟨g, rfl, ⟨f3, f4⟩, h2⟩; have H2 := Lib.hid h2; clear HG h2)
              | (go_at_call 14; refine H2.out.mono ?_; rintro e W4 ⟨rfl, hpx⟩; obtain ⟨f5, f6⟩ := hpx.ld; have HPX4 := Lib.hid hpx; clear H2 hpx))
          all_goals
            go_wp2_with fail
            go_meet
            exact HPX4
        · go_upto_region 12 with fail
          have HG := Lib.hid (drop_both (HPX.out.later (Below.refl _ _).drew))
          clear HPX
          go_region_held3 (fun W' => W'.cell? ⟨X, 1, none⟩ = some (.int .i64 xid) ∧ W'.cell? ⟨X, 2, none⟩ = some (.int .i64 xv)) (first | exact ⟨f1, f2⟩ | exact ⟨f3, f4⟩ | exact ⟨f5, f6⟩)
            (first
              | (go_at_call 15; refine HG.out.mono ?_; rintro e W3 ⟨g, rfl, ⟨f3, f4⟩, h2⟩; have H2 := Lib.hid h2; clear HG h2)
              | (go_at_call 16; refine H2.out.mono ?_; rintro e W4 ⟨rfl, hpx⟩; obtain ⟨f5, f6⟩ := hpx.ld; have HPX4 := Lib.hid hpx; clear H2 hpx))
          all_goals
            go_wp2_with fail
            go_meet
            exact HPX4
        · go_upto_region 12 with fail
          have HG := Lib.hid (drop_both (HPX.out.later (Below.refl _ _).drew))
          clear HPX
          go_region_held3 (fun W' => W'.cell? ⟨X, 1, none⟩ = some (.int .i64 xid) ∧ W'.cell? ⟨X, 2, none⟩ = some (.int .i64 xv)) (first | exact ⟨f1, f2⟩ | exact ⟨f3, f4⟩ | exact ⟨f5, f6⟩)
            (first
              | (go_at_call 15; refine HG.out.mono ?_; rintro e W3 ⟨g, rfl, ⟨f3, f4⟩, h2⟩; have H2 := Lib.hid h2; clear HG h2)
              | (go_at_call 16; refine H2.out.mono ?_; rintro e W4 ⟨rfl, hpx⟩; obtain ⟨f5, f6⟩ := hpx.ld; have HPX4 := Lib.hid hpx; clear H2 hpx))
          all_goals
            go_wp2_with fail
            go_meet
            exact HPX4
      case rest =>
        have HC := Lib.hid hcut.out
        clear HPX hcut
        obtain ⟨f1, f2⟩ := HC.out.ld
        have HG := Lib.hid (get_both HC.out)
        clear HC
        go_wp2_with fail
        refine HG.out.mono ?_
        rintro e W3 ⟨y, g, rfl, ⟨f3, f4⟩, h2⟩
        have H2 := Lib.hid h2
        clear HG h2
        go_wp2_with fail
        refine H2.out.mono ?_
        rintro e W4 ⟨rfl, hpx⟩
        have HI := Lib.hid (rest_ids hpx)
        clear H2 hpx
        go_wp2_with fail
        refine HI.out.mono ?_
        rintro e W5 ⟨A3, n, c3, rfl, hasks⟩
        obtain ⟨A5, c5, g1, hn64, hlen, hmid⟩ := hasks.ex
        have HL := Lib.hid hlen
        have HM := Lib.hid hmid
        clear hasks hlen hmid HI
        go_upto_region 29 with fail
        go_region_held3 (fun W' => W'.cell? ⟨q, 3, none⟩ = some (.slice A5 n c5)) (first | exact g1 | exact g2 | exact g3)
          (first
            | (go_at_call 20; refine HL.out.mono ?_; rintro e w' ⟨rfl, rfl⟩; clear HL)
            | (go_at_call 22; refine HM.out.mono ?_; rintro e W6 ⟨A4, c4, rfl, g2, h6⟩; have H6 := Lib.hid h6; clear HM h6)
            | (go_at_call 21; refine H6.out.mono ?_; rintro e W7 ⟨rfl, g3, h7⟩; have H7 := Lib.hid h7; clear H6 h7))
        all_goals
          go_wp2_with fail
          go_loopg [24] n (fun gg s24 wx => ∃ j : Nat, j ≤ n ∧ gg = n - j ∧ s24 = .int .i64 j ∧ Hid (InI w r q N first step (k + 1) A3 n j wx))
          case atStart => exact ⟨0, Nat.zero_le _, rfl, rfl, H7⟩
          case round =>
            clear H7
            obtain ⟨j, hj, rfl, rfl, hin⟩ := hrel
            by_cases hjn : j < n
            · obtain ⟨D, z, v, rfl, c1, hget⟩ := in_round hin.out hjn
              have HGT := Lib.hid hget
              clear hget hin
              go_wp2_with fail
              refine HGT.out.mono ?_
              rintro e W8 ⟨rfl, c2, fz, hmget, hnext⟩
              have HMG := Lib.hid hmget
              have HNX := Lib.hid hnext
              clear hmget hnext HGT
              go_wp2_with fail
              refine HMG.out.mono ?_
              rintro e w' ⟨rfl, rfl⟩
              clear HMG
              go_wp2_with fail
              go_roundg (n - (j + 1))
              case measure => omega
              case rel => exact ⟨j + 1, by omega, rfl, by go_num, HNX⟩
            · have HD := Lib.hid hin.out.done
              clear hin
              go_wp2_with fail
              go_roundg (len - (k + 1))
              case measure => omega
              case rel => exact ⟨k + 1, by omega, rfl, by go_num, HD⟩
    · have HB := Lib.hid hinv.out.below
      clear hinv
      go_wp2_with fail
      go_ret
      exact ⟨rfl, HB.out⟩

theorem plays_walk (size first step : Int) (A : Option Addr) (c : Nat) (acts : List ActD) (w : World) (hm : acts.length ≤ maxLen) (hat : ActsAt w A acts) (hok : ActsOk acts) :
    Calls Try.prog 3 #[.int .i64 size, .int .i64 first, .int .i64 step, .slice A acts.length c] w fun e w' => e = .returned (.bool true) ∧ Below w.heap.size w w' := by
  by_cases h150 : 150 < acts.length
  · exact plays_long size first step A c acts w hm h150
  · by_cases h : (size < 1 ∨ 64 < size) ∨ (first < 1 ∨ 1000 < first) ∨ (step < 1 ∨ 1000 < step)
    · exact plays_refused size first step A c acts w (by omega) h
    · obtain ⟨N, rfl⟩ : ∃ N : Nat, size = (N : Int) := ⟨size.toNat, by omega⟩
      exact plays_in N first step A c acts w hat hok (by omega) (by omega) (by omega) (by omega) (by omega) (by omega) (by omega)

end Go.Proofs.Ytcecdcdnjbndiaa.plays
