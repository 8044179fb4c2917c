/-
  Given for the seat's laws: the walk of the law BreakerLonger. No condition but those of the theorems.
-/
import Derived.Test.YtcnlcjlipbpjoaaBAwake
import Derived.Test.YtcnlcjlipbpjoaaBPlain
import Derived.Test.YtcnlcjlipbpjoaaBIn
import Derived.Deep.RegionHeld3
import Derived.Deep.LoopGhost
namespace Go.Proofs.Ytcnlcjlipbpjoaa.bk
open Go.RowKit mem
open Go.Sort (grow)
set_option linter.unusedVariables false

theorem long_facts {now span c y : Int} (h0 : 0 ≤ now) (h1 : now ≤ 1000000) (h2 : 1 ≤ span) (h3 : span ≤ 8 * c) (h4 : 1 ≤ c) (h5 : c ≤ 1000) (h6 : 0 ≤ y) (h7 : y ≤ 255) :
    lets ⟨true, now, span, false⟩ (now + span - 1) = false ∧ lets ⟨true, now, span, false⟩ (now + span) = true ∧ tv ⟨true, now, span, false⟩ (now + span + y) = .tuple #[bv ⟨true, now, span, true⟩, .bool true, .int .i64 0] ∧
      goodb ⟨true, now, span, true⟩ true = zb ∧ bw ⟨true, now, span, true⟩ (now + span + y) c true false = .tuple #[bv ⟨true, now + span + y, min (2 * span) (8 * c), false⟩, .int .i64 0] ∧ may ⟨true, now + span + y, min (2 * span) (8 * c), false⟩ = true := by
  have hn : tk now = true := tk_ok h0 (by omega)
  have hn2 : tk (now + span + y) = true := tk_ok (by omega) (by omega)
  have hm := may_mk true hn h2 (show span ≤ 8000 by omega)
  have s1 : st ⟨true, now, span, false⟩ (now + span - 1) = 1 := by rw [st_mk false hn h2 (by omega), if_pos (by omega)]
  have s2 : st ⟨true, now, span, false⟩ (now + span) = 2 := by rw [st_mk false hn h2 (by omega), if_neg (by omega)]
  have s3 : st ⟨true, now, span, false⟩ (now + span + y) = 2 := by rw [st_mk false hn h2 (by omega), if_neg (by omega)]
  refine ⟨lets_one s1, ?_, ?_, ?_, ?_, ?_⟩
  · rw [lets_ne (by rw [s2]; decide)]; rfl
  · exact tv_half hn2 (by rw [lets_ne (by rw [s3]; decide)]; rfl) s3
  · unfold goodb ends; rw [hm]; rfl
  · exact bw_end false hm hn2 (ck_ok h4 h5) rfl rfl
  · exact may_mk false hn2 (by omega) (by omega)

set_option maxRecDepth 100000 in
set_option maxHeartbeats 2000000 in
theorem longer_out (c : Int) (A : Option Addr) (n q : Nat) (w : World) (h : c < 1 ∨ 1000 < c ∨ 20 < n) : Calls Try.prog 6 #[.int .i64 c, .slice A n q] w (True_ w) := by
  have HA := Bx.mk (awake_any w)
  unfold True_
  by_cases h1 : c < 1
  · go_enter Try.func6, Try.ntmps6
    go_wp2_with fail
    refine HA.out.mono ?_
    rintro e w1 ⟨rfl, hg⟩
    go_wp2_with fail
    go_ret
    exact ⟨rfl, hg.below⟩
  · by_cases h2 : 1000 < c
    · go_enter Try.func6, Try.ntmps6
      go_wp2_with fail
      refine HA.out.mono ?_
      rintro e w1 ⟨rfl, hg⟩
      go_wp2_with fail
      go_ret
      exact ⟨rfl, hg.below⟩
    · have h3 : (20 : Int) < (n : Int) := by omega
      clear h
      go_enter Try.func6, Try.ntmps6
      go_wp2_with fail
      refine HA.out.mono ?_
      rintro e w1 ⟨rfl, hg⟩
      go_wp2_with fail
      go_ret
      exact ⟨rfl, hg.below⟩

set_option maxRecDepth 100000 in
set_option maxHeartbeats 24000000 in
theorem longer_in {c : Int} {A : Option Addr} {n q : Nat} {l : List Nat} {w : World} (hl : l.length = n) (ha : BytesAt w A l) (ho : BytesOk l) (h1 : 1 ≤ c) (h2 : c ≤ 1000) (h3 : n ≤ 20) : Calls Try.prog 6 #[.int .i64 c, .slice A n q] w (True_ w) := by
  have HA := Bx.mk (awake_any w)
  have HAT := Bx.mk ha
  have HOK := Bx.mk ho
  have HLV := Bx.mk hl
  have HB := Bx.mk (fun wx => bad_any zb 7 c false true wx)
  rw [bw_trip (b := zb) rfl rfl (ck_ok h1 h2) rfl rfl rfl] at HB
  unfold Gv at HB
  have HM1 := Bx.mk (may_mk (n := 7) (s := c) false rfl h1 (by omega))
  have h4 : (n : Int) ≤ 20 := by omega
  have wc : IntKind.i64.wrap (8 * c) = 8 * c := by rw [IntKind.wrap_i64]; omega
  unfold True_
  clear ha ho hl
  go_enter Try.func6, Try.ntmps6
  go_wp2_with fail
  refine HA.out.mono ?_
  rintro e w1 ⟨rfl, hg⟩
  have HP0 : Bx (Pl w w1.heap.size zb (w1.alloc (.cells #[.bool false, .int .i64 0, .int .i64 0, .bool false] 23))) := ⟨⟨lays_newz w1, hg.alloc _, rfl⟩⟩
  have HG5 := Bx.mk hg.size
  clear hg HA
  go_wp2_with fail
  refine (HB.out _).mono ?_
  rintro e w2 ⟨rfl, hg⟩
  replace HP0 := Bx.mk (HP0.out.grew hg)
  have HP1 := Bx.mk (HP0.out.set HG5.out HM1.out)
  clear hg HB HM1
  generalize w1.heap.size = g5 at *
  obtain ⟨c0, c1, c2, c3, f0⟩ := HP0.out.ly
  go_wp2_with fail
  clear c0 c1 c2 c3 f0 HP0
  refine wp_at (fun W => Bx (Pl w g5 ⟨true, 7, c, false⟩ W)) HP1 ?_
  clear HP1
  intro W0 HP1
  go_loopg [6, 7, 8, 9] n (fun g s6 s7 s8 s9 wr => ∃ (i : Nat) (now span : Int), i ≤ n ∧ g = n - i ∧ 0 ≤ now ∧ now ≤ 7 + 8255 * (i : Int) ∧ 1 ≤ span ∧ span ≤ 8 * c ∧ s6 = .int .i64 0 ∧ s7 = .int .i64 now ∧ s8 = .int .i64 span ∧ s9 = .int .i64 (i : Int) ∧ Bx (Pl w g5 ⟨true, now, span, false⟩ wr))
  case atStart => exact ⟨0, 7, c, by omega, by omega, by omega, by omega, by omega, by omega, rfl, rfl, rfl, rfl, HP1⟩
  case round =>
    clear HP1
    obtain ⟨i, now, span, hi, rfl, hn0, hn1, hs0, hs1, rfl, rfl, rfl, rfl, HP⟩ := hrel
    have wa : IntKind.i64.wrap (now + span) = now + span := by rw [IntKind.wrap_i64]; omega
    have wb : IntKind.i64.wrap (now + span - 1) = now + span - 1 := by rw [IntKind.wrap_i64]; omega
    by_cases hlt : i < n
    · obtain ⟨y, hy⟩ : ∃ y, l[i]? = some y := ⟨_, List.getElem?_eq_getElem (by rw [HLV.out]; exact hlt)⟩
      have HBY := Bx.mk (fun wx (k : Grew w wx) => (HAT.out.grew k).at_ i y hy)
      have hy1 := HOK.out.ok y (List.mem_of_getElem? hy)
      obtain ⟨z, hz⟩ : ∃ z : Int, z = (y : Int) := ⟨_, rfl⟩
      rw [← hz] at HBY
      have z0 : 0 ≤ z := by omega
      have z1 : z ≤ 255 := by omega
      obtain ⟨f1, f2, f3, f4, f5, f6⟩ := long_facts hn0 (show now ≤ 1000000 by omega) hs0 hs1 h1 h2 z0 z1
      have H1 := Bx.mk (fun wx => lets_any ⟨true, now, span, false⟩ (now + span - 1) wx)
      have H2 := Bx.mk (fun wx => lets_any ⟨true, now, span, false⟩ (now + span) wx)
      have H3 := Bx.mk (fun wx => try_any ⟨true, now, span, false⟩ (now + span + z) wx)
      have H4 := Bx.mk (fun wx => good_any ⟨true, now, span, true⟩ true wx)
      have H5 := Bx.mk (fun wx => bad_any ⟨true, now, span, true⟩ (now + span + z) c true false wx)
      rw [f1] at H1
      rw [f2] at H2
      rw [f3] at H3
      rw [f4] at H4
      rw [f5] at H5
      unfold Gv at H1 H2 H3 H4 H5
      have HM := Bx.mk f6
      have wz : IntKind.i64.wrap z = z := by rw [IntKind.wrap_i64]; omega
      have wd : IntKind.i64.wrap (now + span + z) = now + span + z := by rw [IntKind.wrap_i64]; omega
      have we : IntKind.i64.wrap (2 * span) = 2 * span := by rw [IntKind.wrap_i64]; omega
      have i0 : (0 : Int) ≤ (i : Int) := by omega
      have i1 : (i : Int) < (n : Int) := by omega
      clear f1 f2 f3 f4 f5 f6 hz hy1 hy HAT HOK HLV
      obtain ⟨c0, c1, c2, c3, f0⟩ := HP.out.ly
      go_wp2_with fail
      refine (H1.out _).mono ?_
      rintro e w3 ⟨rfl, hg⟩
      replace HP := Bx.mk (HP.out.grew hg)
      clear c0 c1 c2 c3 f0 hg H1
      obtain ⟨c0, c1, c2, c3, f0⟩ := HP.out.ly
      go_wp2_with fail
      refine (H2.out _).mono ?_
      rintro e w4 ⟨rfl, hg⟩
      replace HP := Bx.mk (HP.out.grew hg)
      clear c0 c1 c2 c3 f0 hg H2
      obtain ⟨c0, c1, c2, c3, f0⟩ := HP.out.ly
      obtain ⟨ga, off, rfl, k0⟩ := HBY.out _ HP.out.gr
      go_wp2_with fail
      refine (H3.out _).mono ?_
      rintro e w5 ⟨rfl, hg⟩
      replace HP := Bx.mk (HP.out.grew hg)
      clear c0 c1 c2 c3 f0 k0 hg H3 HBY
      go_wp2_with fail
      refine (H4.out _).mono ?_
      rintro e w6 ⟨rfl, hg⟩
      have HN := Bx.mk ((lays_box w5 ⟨true, now, span, true⟩).grew hg)
      replace HP := Bx.mk ((HP.out.new _).grew hg)
      clear hg H4
      obtain ⟨d0, d1, d2, d3, g0⟩ := HN.out
      go_wp2_with fail
      refine (H5.out _).mono ?_
      rintro e w7 ⟨rfl, hg⟩
      replace HP := Bx.mk (HP.out.grew hg)
      have HPX := Bx.mk (HP.out.set HG5.out HM.out)
      clear d0 d1 d2 d3 g0 hg H5 HN HM
      obtain ⟨c0, c1, c2, c3, f0⟩ := HP.out.ly
      by_cases hmin : 8 * c < 2 * span
      · have hm : min (2 * span) (8 * c) = 8 * c := by omega
        rw [hm] at HPX
        rw [hm]
        clear hm
        go_wp2_with fail
        go_roundg (n - (i + 1))
        case measure => omega
        case rel => exact ⟨i + 1, now + span + z, 8 * c, by omega, rfl, by omega, by omega, by omega, by omega, rfl, rfl, rfl, by go_num, HPX⟩
      · have hm : min (2 * span) (8 * c) = 2 * span := by omega
        rw [hm] at HPX
        rw [hm]
        clear hm
        go_wp2_with fail
        go_roundg (n - (i + 1))
        case measure => omega
        case rel => exact ⟨i + 1, now + span + z, 2 * span, by omega, rfl, by omega, by omega, by omega, by omega, rfl, rfl, rfl, by go_num, HPX⟩
    · obtain rfl : i = n := by omega
      obtain ⟨f1, f2, f3, f4, f5, f6⟩ := long_facts (y := 0) hn0 (show now ≤ 1000000 by omega) hs0 hs1 h1 h2 (by omega) (by omega)
      have H1 := Bx.mk (fun wx => lets_any ⟨true, now, span, false⟩ (now + span - 1) wx)
      have H2 := Bx.mk (fun wx => lets_any ⟨true, now, span, false⟩ (now + span) wx)
      rw [f1] at H1
      rw [f2] at H2
      unfold Gv at H1 H2
      clear f1 f2 f3 f4 f5 f6
      obtain ⟨c0, c1, c2, c3, f0⟩ := HP.out.ly
      go_wp2_with fail
      refine (H1.out _).mono ?_
      rintro e w3 ⟨rfl, hg⟩
      replace HP := Bx.mk (HP.out.grew hg)
      clear c0 c1 c2 c3 f0 hg H1
      obtain ⟨c0, c1, c2, c3, f0⟩ := HP.out.ly
      go_wp2_with fail
      refine (H2.out _).mono ?_
      rintro e w4 ⟨rfl, hg⟩
      replace HP := Bx.mk (HP.out.grew hg)
      clear c0 c1 c2 c3 f0 hg H2
      go_wp2_with fail
      go_ret
      exact ⟨rfl, HP.out.gr.below⟩

theorem longer_any {c : Int} {A : Option Addr} {q : Nat} {l : List Nat} {w : World} (ha : BytesAt w A l) (ho : BytesOk l) : Calls Try.prog 6 #[.int .i64 c, .slice A l.length q] w (True_ w) := by
  by_cases h : c < 1 ∨ 1000 < c ∨ 20 < l.length
  · exact longer_out c A l.length q w h
  · exact longer_in rfl ha ho (by omega) (by omega) (by omega)
end Go.Proofs.Ytcnlcjlipbpjoaa.bk
