/-
  Given for 'Rows.HealthNilSaid': the law's walk: it returns true at every input, and turns nothing that was there. No condition.
-/
import Derived.Test.YtpidjekabnnmcaaHNil0
import Derived.Test.YtpidjekabnnmcaaHCfg
namespace Go.Proofs.Ytpidjekabnnmcaa.hp
open Go.RowKit mem
set_option linter.unusedVariables false

set_option maxHeartbeats 1000000 in
theorem reload_nil {w : World} {p : Option Addr} (h : NotMadeH w p) (d : CfD) : Calls Try.prog 10 #[.pointer p, d.v] w fun e w' => e = .returned (.int .i64 1) ∧ Below w.heap.size w w' := by
  have hb0 : Below w.heap.size w (w.alloc (.cells #[d.x0, .int .i64 d.l0, .int .i64 d.l1, .int .i64 d.l2, .int .i64 d.l3, .int .i64 d.l4, .int .i64 d.l5, .int .i64 d.l6, .int .i64 d.l7, .int .i64 d.fails, .int .i64 d.cool, .int .i64 d.probe, d.x12, .slice d.A d.ps.length d.c, d.x14, d.x15] 29)) := (Below.refl _ w).alloc (Nat.le_refl _) _
  have HM := Lib.hid (hmade_no (h.below hb0))
  have HB := Lib.hid hb0
  clear h hb0
  go_enter Try.func10, Try.ntmps10
  go_wp2_with (go_at_call 24; refine HM.out.mono ?_; rintro e w' ⟨rfl, rfl⟩)
  go_ret
  exact ⟨rfl, HB.out⟩

/-- where the loop begins -/
abbrev nloop (w : World) : World := (w.alloc (.cells #[.pointer none, .int .i64 0, .int .i64 0, .int .i64 0, .slice none 0 0, .int .i64 0, .pointer none] 35)).alloc (.cells #[.pointer none, .pointer (some ⟨w.heap.size, 0, none⟩)] 31)
theorem nloop_facts (w : World) : Lies (nloop w) w.heap.size 35 #[.pointer none, .int .i64 0, .int .i64 0, .int .i64 0, .slice none 0 0, .int .i64 0, .pointer none] ∧ Lies (nloop w) (w.heap.size + 1) 31 #[.pointer none, .pointer (some ⟨w.heap.size, 0, none⟩)] ∧ Below w.heap.size w (nloop w) := by
  have h0 := Lies.new w 35 #[.pointer none, .int .i64 0, .int .i64 0, .int .i64 0, .slice none 0 0, .int .i64 0, .pointer none]
  have h1 := Lies.new (w.alloc (.cells #[.pointer none, .int .i64 0, .int .i64 0, .int .i64 0, .slice none 0 0, .int .i64 0, .pointer none] 35)) 31 #[.pointer none, .pointer (some ⟨w.heap.size, 0, none⟩)]
  rw [World.size_alloc] at h1
  exact ⟨h0.alloc _, h1, ((Below.refl _ w).alloc (Nat.le_refl _) _).alloc (by simp) _⟩

/-- one round's calls, one behind the other -/
structure Rest (W : World) (g : Nat) (d : CfD) (w : World) : Prop where
  cf : CfAt w g d
  below : Below W.heap.size W w

set_option maxRecDepth 100000 in
set_option maxHeartbeats 4000000 in
theorem hnil_walk (i : Int) (t : Bool) (d : CfD) (w : World) (hp : PasAt w (fun g => g < w.heap.size) d.A d.ps) (hm : d.ps.length ≤ maxLen) :
    Calls Try.prog 3 #[.int .i64 i, .bool t, d.v] w fun e w' => e = .returned (.bool true) ∧ Below w.heap.size w w' := by
  have hb0 : Below w.heap.size w (w.alloc (.cells #[d.x0, .int .i64 d.l0, .int .i64 d.l1, .int .i64 d.l2, .int .i64 d.l3, .int .i64 d.l4, .int .i64 d.l5, .int .i64 d.l6, .int .i64 d.l7, .int .i64 d.fails, .int .i64 d.cool, .int .i64 d.probe, d.x12, .slice d.A d.ps.length d.c, d.x14, d.x15] 29)) := (Below.refl _ w).alloc (Nat.le_refl _) _
  have HL := bk.Bx.mk (long_any d _ (hp.below hb0) hm)
  have HB0 := bk.Bx.mk hb0
  have HC0 := bk.Bx.mk (cf_box w d)
  clear hb0 hp hm
  generalize hW0 : w.alloc (.cells #[d.x0, .int .i64 d.l0, .int .i64 d.l1, .int .i64 d.l2, .int .i64 d.l3, .int .i64 d.l4, .int .i64 d.l5, .int .i64 d.l6, .int .i64 d.l7, .int .i64 d.fails, .int .i64 d.cool, .int .i64 d.probe, d.x12, .slice d.A d.ps.length d.c, d.x14, d.x15] 29) = W0 at *
  obtain ⟨k0, k1, k2, k3, k4, k5, k6, k7, k8, k9, k10, k11, k12, k13, k14, k15⟩ := HC0.out
  go_enter Try.func3, Try.ntmps3
  go_wp2_with fail
  clear hW0 k0 k1 k2 k3 k4 k5 k6 k7 k8 k9 k10 k11 k12 k13 k14 k15
  refine HL.out.mono ?_
  rintro e w1 ⟨b, rfl, _, hb1⟩
  have HB1 := bk.Bx.mk (HB0.out.trans (hb1.mono HB0.out.size))
  have HC1 := bk.Bx.mk (HC0.out.of_same (hb1.block _ HC0.out.lt))
  clear hb1 HL HB0 HC0
  cases b with
  | true =>
    go_wp2_with fail
    go_ret
    exact ⟨rfl, HB1.out⟩
  | false =>
    go_wp2_with fail
    obtain ⟨f1, f2, f3⟩ := nloop_facts w1
    have F1 := bk.Bx.mk f1
    have F2 := bk.Bx.mk f2
    have F3 := bk.Bx.mk f3
    clear f1 f2 f3
    generalize hW : nloop w1 = W at *
    have HN1 : bk.Bx (NotMadeH W none) := ⟨.inl rfl⟩
    have HN2 : bk.Bx (NotMadeH W (some ⟨w1.heap.size, 0, none⟩)) := ⟨.inr ⟨_, rfl, F1.out.lt, F1.out.cell 0⟩⟩
    have HC := bk.Bx.mk (HC1.out.of_same (F3.out.block _ HC1.out.lt))
    have HLT := bk.Bx.mk F2.out.lt
    have D0 : bk.Bx (W.cell? ⟨w1.heap.size + 1, 0, none⟩ = some (.pointer none)) := ⟨F2.out.cell 0⟩
    have D1 : bk.Bx (W.cell? ⟨w1.heap.size + 1, 1, none⟩ = some (.pointer (some ⟨w1.heap.size, 0, none⟩))) := ⟨F2.out.cell 1⟩
    clear F1 F2
    go_loopw [9] (fun s9 wr => ∃ j : Nat, j ≤ 2 ∧ s9 = .int .i64 j ∧ bk.Bx (Below W.heap.size W wr)) (fun s9 _ => 2 - (intOf s9).toNat)
    case atStart => exact ⟨0, by omega, rfl, ⟨by rw [← hW]; exact Below.refl _ _⟩⟩
    case round =>
      obtain ⟨j, hj, rfl, hbel⟩ := hrel
      match j, hj with
      | 2, _ =>
        go_wp2_with fail
        go_ret
        exact ⟨rfl, HB1.out.trans ((F3.out.trans (hbel.out.mono F3.out.size)).mono HB1.out.size)⟩
      | 0, _ =>
        have e0 : wr.cell? ⟨w1.heap.size + 1, 0, none⟩ = some (.pointer none) := (hbel.out.cell (p := ⟨w1.heap.size + 1, 0, none⟩) HLT.out).trans D0.out
        have hn := HN1.out.below hbel.out
        have KT := bk.Bx.mk (try_nil hn i)
        have KE := bk.Bx.mk (tells_nil hn i)
        have HC2 := bk.Bx.mk (HC.out.of_same (hbel.out.block _ HC.out.lt))
        clear hn
        go_wp2_with (first
          | (go_at_call 8; refine KT.out.mono ?_; rintro e w' ⟨rfl, rfl⟩)
          | fail)
        refine KE.out.mono ?_
        rintro e wa ⟨rfl, hba⟩
        have hbb := hbel.out.trans (hba.mono hbel.out.size)
        have hbz : Below W.heap.size W (wa.alloc (.cells #[.bool false, .int .i64 0, .int .i64 0, .bool false] 43)) := hbb.alloc hbb.size _
        have hn1 := HN1.out.below hbz
        have HC3 := bk.Bx.mk (HC.out.of_same (hbz.block _ HC.out.lt))
        have HBZ := bk.Bx.mk hbz
        have KR := bk.Bx.mk (reload_nil hn1 d)
        have HZ := bk.Bx.mk (Lies.new wa 43 #[.bool false, .int .i64 0, .int .i64 0, .bool false])
        clear hbb hbz hba KE KT HC2 hn1 e0
        have z0 := HZ.out.cell 0
        have z1 := HZ.out.cell 1
        have z2 := HZ.out.cell 2
        have z3 := HZ.out.cell 3
        have zf := fun k => HZ.out.frozen k
        obtain ⟨k0, k1, k2, k3, k4, k5, k6, k7, k8, k9, k10, k11, k12, k13, k14, k15⟩ := HC3.out
        clear HC3
        go_wp2_with fail
        clear k0 k1 k2 k3 k4 k5 k6 k7 k8 k9 k10 k11 k12 k13 k14 k15 z0 z1 z2 z3 zf
        refine KR.out.mono ?_
        rintro e wb ⟨rfl, hbb⟩
        have hb3 := HBZ.out.trans (hbb.mono HBZ.out.size)
        have hn2 := HN1.out.below hb3
        have HB3 := bk.Bx.mk hb3
        have T1 := bk.Bx.mk (tick_nil hn2)
        have T2 := bk.Bx.mk (now_nil hn2)
        have T3 := bk.Bx.mk (key_nil hn2 i)
        have T4 := bk.Bx.mk (place_nil hn2 i)
        have T5 := bk.Bx.mk (lets_nil hn2 i)
        clear hb3 hn2 hbb KR HZ HBZ
        go_wp2_with (first
          | (go_at_call 11; refine T1.out.mono ?_; rintro e w' ⟨rfl, rfl⟩)
          | (go_at_call 12; refine T2.out.mono ?_; rintro e w' ⟨rfl, rfl⟩)
          | (go_at_call 13; refine T3.out.mono ?_; rintro e w' ⟨rfl, rfl⟩)
          | (go_at_call 14; refine T4.out.mono ?_; rintro e w' ⟨rfl, rfl⟩)
          | fail)
        refine T5.out.mono ?_
        rintro e wc ⟨rfl, hbc⟩
        clear T1 T2 T3 T4 T5
        have hb4 := HB3.out.trans (hbc.mono HB3.out.size)
        have hn3 := HN1.out.below hb4
        have HB4 := bk.Bx.mk hb4
        have T1 := bk.Bx.mk (good_nil hn3 i t)
        have T2 := bk.Bx.mk (bad_nil hn3 i t)
        have T3 := bk.Bx.mk (back_nil hn3 i t)
        clear hb4 hn3 hbc HB3
        go_wp2_with (first
          | (go_at_call 16; refine T1.out.mono ?_; rintro e w' ⟨rfl, rfl⟩)
          | (go_at_call 17; refine T2.out.mono ?_; rintro e w' ⟨rfl, rfl⟩)
          | (go_at_call 18; refine T3.out.mono ?_; rintro e w' ⟨rfl, rfl⟩)
          | fail)
        go_roundw
        case rel => exact ⟨0 + 1, by omega, rfl, HB4⟩
        case measure => simp [intOf]
      | 1, _ =>
        have e0 : wr.cell? ⟨w1.heap.size + 1, 1, none⟩ = some (.pointer (some ⟨w1.heap.size, 0, none⟩)) := (hbel.out.cell (p := ⟨w1.heap.size + 1, 1, none⟩) HLT.out).trans D1.out
        have hn := HN2.out.below hbel.out
        have KT := bk.Bx.mk (try_nil hn i)
        have KE := bk.Bx.mk (tells_nil hn i)
        have HC2 := bk.Bx.mk (HC.out.of_same (hbel.out.block _ HC.out.lt))
        clear hn
        go_wp2_with (first
          | (go_at_call 8; refine KT.out.mono ?_; rintro e w' ⟨rfl, rfl⟩)
          | fail)
        refine KE.out.mono ?_
        rintro e wa ⟨rfl, hba⟩
        have hbb := hbel.out.trans (hba.mono hbel.out.size)
        have hbz : Below W.heap.size W (wa.alloc (.cells #[.bool false, .int .i64 0, .int .i64 0, .bool false] 43)) := hbb.alloc hbb.size _
        have hn1 := HN2.out.below hbz
        have HC3 := bk.Bx.mk (HC.out.of_same (hbz.block _ HC.out.lt))
        have HBZ := bk.Bx.mk hbz
        have KR := bk.Bx.mk (reload_nil hn1 d)
        have HZ := bk.Bx.mk (Lies.new wa 43 #[.bool false, .int .i64 0, .int .i64 0, .bool false])
        clear hbb hbz hba KE KT HC2 hn1 e0
        have z0 := HZ.out.cell 0
        have z1 := HZ.out.cell 1
        have z2 := HZ.out.cell 2
        have z3 := HZ.out.cell 3
        have zf := fun k => HZ.out.frozen k
        obtain ⟨k0, k1, k2, k3, k4, k5, k6, k7, k8, k9, k10, k11, k12, k13, k14, k15⟩ := HC3.out
        clear HC3
        go_wp2_with fail
        clear k0 k1 k2 k3 k4 k5 k6 k7 k8 k9 k10 k11 k12 k13 k14 k15 z0 z1 z2 z3 zf
        refine KR.out.mono ?_
        rintro e wb ⟨rfl, hbb⟩
        have hb3 := HBZ.out.trans (hbb.mono HBZ.out.size)
        have hn2 := HN2.out.below hb3
        have HB3 := bk.Bx.mk hb3
        have T1 := bk.Bx.mk (tick_nil hn2)
        have T2 := bk.Bx.mk (now_nil hn2)
        have T3 := bk.Bx.mk (key_nil hn2 i)
        have T4 := bk.Bx.mk (place_nil hn2 i)
        have T5 := bk.Bx.mk (lets_nil hn2 i)
        clear hb3 hn2 hbb KR HZ HBZ
        go_wp2_with (first
          | (go_at_call 11; refine T1.out.mono ?_; rintro e w' ⟨rfl, rfl⟩)
          | (go_at_call 12; refine T2.out.mono ?_; rintro e w' ⟨rfl, rfl⟩)
          | (go_at_call 13; refine T3.out.mono ?_; rintro e w' ⟨rfl, rfl⟩)
          | (go_at_call 14; refine T4.out.mono ?_; rintro e w' ⟨rfl, rfl⟩)
          | fail)
        refine T5.out.mono ?_
        rintro e wc ⟨rfl, hbc⟩
        clear T1 T2 T3 T4 T5
        have hb4 := HB3.out.trans (hbc.mono HB3.out.size)
        have hn3 := HN2.out.below hb4
        have HB4 := bk.Bx.mk hb4
        have T1 := bk.Bx.mk (good_nil hn3 i t)
        have T2 := bk.Bx.mk (bad_nil hn3 i t)
        have T3 := bk.Bx.mk (back_nil hn3 i t)
        clear hb4 hn3 hbc HB3
        go_wp2_with (first
          | (go_at_call 16; refine T1.out.mono ?_; rintro e w' ⟨rfl, rfl⟩)
          | (go_at_call 17; refine T2.out.mono ?_; rintro e w' ⟨rfl, rfl⟩)
          | (go_at_call 18; refine T3.out.mono ?_; rintro e w' ⟨rfl, rfl⟩)
          | fail)
        go_roundw
        case rel => exact ⟨1 + 1, by omega, rfl, HB4⟩
        case measure => simp [intOf]
end Go.Proofs.Ytpidjekabnnmcaa.hp
