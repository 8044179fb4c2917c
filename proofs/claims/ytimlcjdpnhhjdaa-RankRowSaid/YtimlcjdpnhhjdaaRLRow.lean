/-
  Given for the seat's laws: the law RankRow answers true over whatever memory. No condition but those of the theorems.
-/
import Derived.Test.YtimlcjdpnhhjdaaRLLess
import Derived.Test.YtimlcjdpnhhjdaaRFx
import Derived.Deep.RegionHeld3
import Derived.BigQuiet
namespace Go.Proofs.Ytimlcjdpnhhjdaa.rk
open Go.RowKit mem sp
set_option linter.unusedVariables false

theorem MadeX.push {w wr : World} {v : Value} {l : List Rn} {n : Nat} (h : MadeX w wr v l) (hl : l.length = n) (x : Rn) (hb : n + 1 ≤ 1000) :
    ∃ A c w2, (Builtin.append_ #[34, 34] 34 #[v, .slice (some ⟨wr.heap.size, 0, none⟩) 1 1]).run Try.prog (wr.alloc (.cells #[.string (S x.1), .int .i64 x.2] 40)) = .ok (.slice A (n + 1 : Nat) c) w2 ∧ MadeX w w2 (.slice A (n + 1 : Nat) c) (l ++ [x]) := by
  have hs : RunsAt (wr.alloc (.cells #[.string (S x.1), .int .i64 x.2] 40)) (fun _ => True) (some ⟨wr.heap.size, 0, none⟩) [x] := ⟨fun _ => ⟨wr.heap.size, 0, rfl, trivial, fun j y hy => by
    cases j with
    | zero =>
      simp at hy
      subst hy
      have e := heap_alloc_new wr (.cells #[.string (S x.1), .int .i64 x.2] 40)
      exact ⟨by simp only [World.cell?, e]; rfl, by simp only [World.cell?, e]; rfl⟩
    | succ j => simp at hy⟩⟩
  obtain ⟨A, c, w2, hr, hm, _⟩ := (h.fresh ((Below.refl _ _).alloc (Nat.le_refl _) _)).app (cm := 1) hs (show [x].length = 1 from rfl) hl hb
  exact ⟨A, c, w2, hr, hm⟩
theorem turned_get {bk : Bool} {q n j : Nat} {l : List Rn} (hl : l.length = n) (hj : j < n) : ∃ r, ((List.range n).map fun a => l.getD (fx bk q n a) ([], 0))[j]? = some r ∧ l[fx bk q n j]? = some r := by
  obtain ⟨r, hr⟩ : ∃ r, l[fx bk q n j]? = some r := ⟨_, List.getElem?_eq_getElem (by rw [hl]; exact fx_lt (by omega))⟩
  refine ⟨r, ?_, hr⟩
  rw [List.getElem?_map, List.getElem?_range hj]
  simp [List.getD_eq_getElem?_getD, hr]
theorem turned_order {key : Str} {bk : Bool} {q n : Nat} {l : List Rn} {oA oB : List Nat} (hl : l.length = n) (hq : q < n) (hu : ∀ a b, a < b → b < n → SR key l a ≠ SR key l b) (hA : Ord (SR key l) n oA) (hB : Ord (SR key ((List.range n).map fun a => l.getD (fx bk q n a) ([], 0))) n oB) : oA = oB.map (fx bk q n) :=
  hA.turned (hB.congr (fun j hj => by
    obtain ⟨r, h1, h2⟩ := turned_get (bk := bk) (q := q) hl hj
    rw [SR_get h1, SR_get h2])) (fx_perm hq) (fun i j hi hj e => by
    rcases Nat.lt_trichotomy i j with h | h | h
    · exact absurd e (hu i j h hj)
    · exact h
    · exact absurd e.symm (hu j i h hi))

set_option maxHeartbeats 1000000 in
set_option maxRecDepth 100000 in
theorem lrow_any {w : World} {K A : Option Addr} {k ck n c : Nat} {key : Str} {l : List Rn} (hk : Spell w (fun g => g < w.heap.size) K k ck key) (hl : l.length = n) (hr : RunsAt w (fun g => g < w.heap.size) A l) (hn : n < 8796093022208) (z : Int) (bk : Bool) :
    Calls Try.prog 8 #[.slice K k ck, .slice A n c, .int .i64 z, .bool bk] w (True_ w) := by
  have HAW := Bx.mk (awake_any w)
  unfold True_ at HAW
  have HG : Bx (∀ W, Below w.heap.size w W → Calls Try.prog 18 #[.slice K k ck, .slice A n c] W fun e w' => e = .returned (.bool (gr k (nms l))) ∧ Below W.heap.size W w') := ⟨fun W hW => lgreat_any hl (hr.below hW (fun _ h => h)) (fun g hg => Nat.lt_of_lt_of_le hg hW.size) hn⟩
  obtain ⟨gg, hgg⟩ : ∃ gg, gr k (nms l) = gg := ⟨_, rfl⟩
  rw [hgg] at HG
  cases gg with
  | true =>
    clear hk hl hr hgg
    go_enter Try.func8, Try.ntmps8
    go_wp2_with fail
    refine HAW.out.mono ?_
    rintro e w1 ⟨rfl, hb1⟩
    have HB1 := Bx.mk hb1
    clear hb1
    go_wp2_with fail
    refine (HG.out _ HB1.out).mono ?_
    rintro e w2 ⟨rfl, hb2⟩
    have HB2 := Bx.mk (HB1.out.trans (hb2.mono HB1.out.size))
    clear hb2
    go_wp2
    go_ret
    exact ⟨rfl, HB2.out⟩
  | false =>
    obtain ⟨hk100, hn16, hx40⟩ := gr_no hgg
    rw [nms_len, hl] at hn16
    by_cases h0 : n = 0
    · subst h0
      clear hk hl hr hgg hx40
      go_enter Try.func8, Try.ntmps8
      go_wp2_with fail
      refine HAW.out.mono ?_
      rintro e w1 ⟨rfl, hb1⟩
      have HB1 := Bx.mk hb1
      clear hb1
      go_wp2_with fail
      refine (HG.out _ HB1.out).mono ?_
      rintro e w2 ⟨rfl, hb2⟩
      have HB2 := Bx.mk (HB1.out.trans (hb2.mono HB1.out.size))
      clear hb2
      go_wp2
      go_ret
      exact ⟨rfl, HB2.out⟩
    · have hne : ((n : Int) == 0) = false := beq_eq_false_iff_ne.2 (by omega)
      have HZ := Bx.mk (q_small z (show 0 < n by omega))
      obtain ⟨g, off, rfl, hg, hcs⟩ := hr.ex (by omega)
      have HLO : Bx (∀ W, Below w.heap.size w W → Calls Try.prog 19 #[.slice K k ck, .slice (some ⟨g, off, none⟩) n c] W (OrdTo (SR key l) n W)) := ⟨fun W hW => lorder_any (hk.below hW (fun _ h => h)) (fun g hg => Nat.lt_of_lt_of_le hg hW.size) hl (hr.below hW (fun _ h => h)) (fun g hg => Nat.lt_of_lt_of_le hg hW.size) hn16 (fun x hx => by have := hx40 x hx; omega)⟩
      have HSC : Bx (∀ (x : Rn), x ∈ l → ∀ W, Below w.heap.size w W → Calls Try.prog 10 #[.slice K k ck, .string (S x.1), .int .i64 x.2] W (TellTo (scoK key x.1 x.2) W)) := ⟨fun x hx W hW => score_any (hk.below hW (fun _ h => h)) (fun g hg => Nat.lt_of_lt_of_le hg hW.size) x.1 (by have := hx40 x.1 (List.mem_map.2 ⟨x, hx, rfl⟩); omega) x.2⟩
      have HCE : Bx (∀ (i : Nat) (x : Rn), l[i]? = some x → ∀ W, Below w.heap.size w W → W.cell? ⟨g, off + i * 2, none⟩ = some (.string (S x.1)) ∧ W.cell? ⟨g, off + i * 2 + 1, none⟩ = some (.int .i64 x.2)) := ⟨fun i x hx W hW => by
        obtain ⟨g', o', e, _, c1, c2⟩ := (hr.below hW (fun _ h => h)).cell hx
        cases e
        exact ⟨c1, c2⟩⟩
      have HK : Bx (∀ W, Below w.heap.size w W → Spell W (fun g => g < w.heap.size) K k ck key) := ⟨fun W hW => hk.below hW (fun _ h => h)⟩
      have HR := Bx.mk hr
      have HL := Bx.mk hl
      have HX := Bx.mk hx40
      clear hk hl hr hgg hx40 h0 hcs
      go_enter Try.func8, Try.ntmps8
      go_wp2_with fail
      refine HAW.out.mono ?_
      rintro e w1 ⟨rfl, hb1⟩
      have HB1 := Bx.mk hb1
      clear hb1
      go_wp2_with fail
      refine (HG.out _ HB1.out).mono ?_
      rintro e w2 ⟨rfl, hb2⟩
      have HB2 := Bx.mk (HB1.out.trans (hb2.mono HB1.out.size))
      clear hb2 HG HAW
      go_wp2_with fail
      go_loopw [9] (fun s9 wr => ∃ i : Nat, i ≤ n ∧ s9 = .int .i64 (i : Int) ∧ Bx (∀ a b, a < b → b < i → SR key l a ≠ SR key l b) ∧ Bx (Below w.heap.size w wr)) (fun s9 _ => n - (intOf s9).toNat)
      case atStart => exact ⟨0, by omega, rfl, ⟨fun a b _ h => absurd h (by omega)⟩, HB2⟩
      case round =>
        obtain ⟨i, hi, rfl, HU, HB⟩ := hrel
        by_cases hlt : i < n
        · obtain ⟨x, hx⟩ : ∃ x, l[i]? = some x := ⟨_, List.getElem?_eq_getElem (by rw [HL.out]; exact hlt)⟩
          have hSx := SR_get (key := key) hx
          have SX := Bx.mk (HSC.out x (List.mem_of_getElem? hx))
          unfold TellTo at SX
          obtain ⟨sx, hsx⟩ : ∃ s, scoK key x.1 x.2 = s := ⟨_, rfl⟩
          rw [hsx] at hSx SX
          obtain ⟨hx', tx⟩ := sx
          have HSX := Bx.mk hSx
          have HCX := Bx.mk (HCE.out i x hx)
          obtain ⟨nx, hnx⟩ : ∃ q, S x.1 = q := ⟨_, rfl⟩
          obtain ⟨zx, hzx⟩ : ∃ q, x.2 = q := ⟨_, rfl⟩
          rw [hnx, hzx] at SX HCX
          have HNX := Bx.mk hnx
          have i0 : (0 : Int) ≤ (i : Int) := by omega
          have i1 : (i : Int) < (n : Int) := by omega
          have HBD := Bx.mk HB.out.drew
          have c1 := (HCX.out _ HB.out).1
          have c2 := (HCX.out _ HB.out).2
          clear hx hSx hsx hnx hzx HB HB2
          go_upto_region 8 with fail
          go_region_held3 (fun W' => W'.cell? ⟨g, off + i * 2, none⟩ = some (.string nx) ∧ W'.cell? ⟨g, off + i * 2 + 1, none⟩ = some (.int .i64 zx))
            (first | exact ⟨c1, c2⟩ | exact ⟨m1, m2⟩)
            (first | (go_at_call 10; refine (SX.out _ HBD.out).mono ?_; rintro e w5 ⟨rfl, hb5⟩; have HB5 := HBD.out.trans (hb5.mono HBD.out.size); have m1 := (HCX.out _ HB5).1; have m2 := (HCX.out _ HB5).2))
          all_goals
            have HB6 := Bx.mk HB5
            clear m1 m2 HB5 hb5 c1 c2 HBD SX
            go_wp2_with fail
            go_loopw [12] (fun s12 wr2 => ∃ j : Nat, j ≤ i ∧ s12 = .int .i64 (j : Int) ∧ Bx (∀ a, a < j → SR key l a ≠ SR key l i) ∧ Bx (Below w.heap.size w wr2)) (fun s12 _ => i - (intOf s12).toNat)
            case atStart => exact ⟨0, by omega, rfl, ⟨fun a h => absurd h (by omega)⟩, HB6⟩
            case round =>
              obtain ⟨j, hj, rfl, HV, HB⟩ := hrel
              by_cases hji : j < i
              · obtain ⟨y, hy⟩ : ∃ y, l[j]? = some y := ⟨_, List.getElem?_eq_getElem (by rw [HL.out]; omega)⟩
                have hSy := SR_get (key := key) hy
                have SY := Bx.mk (HSC.out y (List.mem_of_getElem? hy))
                unfold TellTo at SY
                obtain ⟨sy, hsy⟩ : ∃ s, scoK key y.1 y.2 = s := ⟨_, rfl⟩
                rw [hsy] at hSy SY
                obtain ⟨hy', ty⟩ := sy
                have HSY := Bx.mk hSy
                have HCY := Bx.mk (HCE.out j y hy)
                obtain ⟨ny, hny⟩ : ∃ q, S y.1 = q := ⟨_, rfl⟩
                obtain ⟨zy, hzy⟩ : ∃ q, y.2 = q := ⟨_, rfl⟩
                rw [hny, hzy] at SY HCY
                have HNY := Bx.mk hny
                have j0 : (0 : Int) ≤ (j : Int) := by omega
                have j1 : (j : Int) < (n : Int) := by omega
                have j2 : (j : Int) < (i : Int) := by omega
                have HBD := Bx.mk HB.out.drew
                have c1 := (HCY.out _ HB.out).1
                have c2 := (HCY.out _ HB.out).2
                clear hy hSy hsy hny hzy HB HB6
                go_upto_region 12 with fail
                go_region_held3 (fun W' => W'.cell? ⟨g, off + j * 2, none⟩ = some (.string ny) ∧ W'.cell? ⟨g, off + j * 2 + 1, none⟩ = some (.int .i64 zy))
                  (first | exact ⟨c1, c2⟩ | exact ⟨m1, m2⟩)
                  (first | (go_at_call 10; refine (SY.out _ HBD.out).mono ?_; rintro e w7 ⟨rfl, hb7⟩; have HB7' := HBD.out.trans (hb7.mono HBD.out.size); have m1 := (HCY.out _ HB7').1; have m2 := (HCY.out _ HB7').2))
                all_goals
                  have HB7 := Bx.mk HB7'
                  clear m1 m2 HB7' hb7 c1 c2 HBD SY
                  have c1 := (HCX.out _ HB7.out).1
                  have c2 := (HCX.out _ HB7.out).2
                  have d1 := (HCY.out _ HB7.out).1
                  have d2 := (HCY.out _ HB7.out).2
                  by_cases hnn : x.1 = y.1
                  · obtain rfl : nx = ny := by rw [← HNX.out, ← HNY.out, hnn]
                    clear hnn
                    go_wp2_with fail
                    go_quiet (fail)
                    have HB9 := Bx.mk (HB7.out.trans (((Still.drewN _ nq).below _).mono HB7.out.size))
                    clear HB7 c1 c2 d1 d2
                    go_wp2
                    go_ret
                    exact ⟨rfl, HB9.out⟩
                  · have en : (nx.toList == ny.toList) = false := by rw [← HNX.out, ← HNY.out]; exact (str_ne hnn).1
                    clear hnn
                    by_cases htt : tx = ty
                    · subst htt
                      cases hx' <;> cases hy'
                      · go_wp2_with fail
                        go_quiet (fail)
                        have HB9 := Bx.mk (HB7.out.trans (((Still.drewN _ nq).below _).mono HB7.out.size))
                        clear HB7 c1 c2 d1 d2
                        go_wp2
                        go_ret
                        exact ⟨rfl, HB9.out⟩
                      · have HV2 : Bx (∀ a, a < j + 1 → SR key l a ≠ SR key l i) := ⟨fun a ha => by
                          by_cases e : a = j
                          · subst e
                            rw [HSX.out, HSY.out]
                            simp
                          · exact HV.out a (by omega)⟩
                        go_wp2_with fail
                        go_quiet (fail)
                        have HB9 := Bx.mk (HB7.out.trans (((Still.drewN _ nq).below _).mono HB7.out.size))
                        clear HB7 c1 c2 d1 d2
                        go_wp2
                        go_roundw
                        case rel => first | exact ⟨j + 1, by omega, by go_num, HV2, HB9⟩ | ((repeat apply Exists.intro); refine ⟨⟨j + 1, by omega, ?_, HV2, HB9⟩, rfl⟩; go_num)
                        case measure => (simp [intOf]) <;> omega
                      · have HV2 : Bx (∀ a, a < j + 1 → SR key l a ≠ SR key l i) := ⟨fun a ha => by
                          by_cases e : a = j
                          · subst e
                            rw [HSX.out, HSY.out]
                            simp
                          · exact HV.out a (by omega)⟩
                        go_wp2_with fail
                        go_quiet (fail)
                        have HB9 := Bx.mk (HB7.out.trans (((Still.drewN _ nq).below _).mono HB7.out.size))
                        clear HB7 c1 c2 d1 d2
                        go_wp2
                        go_roundw
                        case rel => first | exact ⟨j + 1, by omega, by go_num, HV2, HB9⟩ | ((repeat apply Exists.intro); refine ⟨⟨j + 1, by omega, ?_, HV2, HB9⟩, rfl⟩; go_num)
                        case measure => (simp [intOf]) <;> omega
                      · go_wp2_with fail
                        go_quiet (fail)
                        have HB9 := Bx.mk (HB7.out.trans (((Still.drewN _ nq).below _).mono HB7.out.size))
                        clear HB7 c1 c2 d1 d2
                        go_wp2
                        go_ret
                        exact ⟨rfl, HB9.out⟩
                    · have et : (tx == ty) = false := beq_eq_false_iff_ne.2 (by omega)
                      have HV2 : Bx (∀ a, a < j + 1 → SR key l a ≠ SR key l i) := ⟨fun a ha => by
                        by_cases e : a = j
                        · subst e
                          rw [HSX.out, HSY.out]
                          intro e2
                          simp only [Sc.mk.injEq] at e2
                          exact htt e2.2.symm
                        · exact HV.out a (by omega)⟩
                      clear htt
                      go_wp2_with fail
                      go_quiet (fail)
                      have HB9 := Bx.mk (HB7.out.trans (((Still.drewN _ nq).below _).mono HB7.out.size))
                      clear HB7 c1 c2 d1 d2
                      go_wp2
                      go_roundw
                      case rel => first | exact ⟨j + 1, by omega, by go_num, HV2, HB9⟩ | ((repeat apply Exists.intro); refine ⟨⟨j + 1, by omega, ?_, HV2, HB9⟩, rfl⟩; go_num)
                      case measure => (simp [intOf]) <;> omega
              · obtain rfl : j = i := by omega
                have HU2 : Bx (∀ a b, a < b → b < j + 1 → SR key l a ≠ SR key l b) := ⟨fun a b hab hb => by
                  by_cases e : b = j
                  · subst e
                    exact HV.out a hab
                  · exact HU.out a b hab (by omega)⟩
                clear HB6
                go_wp2
                go_roundw
                case rel => first | exact ⟨j + 1, by omega, by go_num, HU2, HB⟩ | ((repeat apply Exists.intro); refine ⟨⟨j + 1, by omega, ?_, HU2, HB⟩, rfl⟩; go_num)
                case measure => (simp [intOf]) <;> omega
        · obtain rfl : i = n := by omega
          obtain ⟨q, hq, hqn⟩ := HZ.out
          have q0 : (0 : Int) ≤ (q : Int) := by omega
          have q1 : (q : Int) < (i : Int) := by omega
          have hqw : IntKind.i64.wrap (q : Int) = (q : Int) := by rw [IntKind.wrap_i64]; omega
          have m0 : Bx (MadeX wr wr (.slice none (0 : Nat) 0) ((List.range 0).map fun a => l.getD (fx bk q i a) ([], 0))) := ⟨MadeX.nil wr⟩
          clear HB2 HSC HZ
          go_wp2_with fail
          go_loopw [15, 16, 17] (fun s15 s16 s17 wr3 => ∃ (t : Nat) (A' : Option Addr) (c' : Nat), t ≤ i ∧ s15 = .slice A' t c' ∧ s16 = .int .i64 (t : Int) ∧ Bx (MadeX wr wr3 (.slice A' t c') ((List.range t).map fun a => l.getD (fx bk q i a) ([], 0)))) (fun _ s16 _ _ => i - (intOf s16).toNat)
          case atStart => exact ⟨0, none, 0, by omega, rfl, rfl, m0⟩
          case round =>
            obtain ⟨t, A', c', ht, rfl, rfl, HM⟩ := hrel
            by_cases hti : t < i
            · have t0 : (0 : Int) ≤ (t : Int) := by omega
              have t1 : (t : Int) < (i : Int) := by omega
              have hmod : ((q : Int) + (t : Int)).tmod (i : Int) = (((q + t) % i : Nat) : Int) := by
                rw [Int.tmod_eq_emod_of_nonneg (by omega)]
                rfl
              have hmw : IntKind.i64.wrap ((q : Int) + (t : Int)) = (q : Int) + (t : Int) := by rw [IntKind.wrap_i64]; omega
              obtain ⟨y, hy⟩ : ∃ y, (q + t) % i = y := ⟨_, rfl⟩
              have hyi : y < i := by rw [← hy]; exact Nat.mod_lt _ (by omega)
              rw [hy] at hmod
              cases bk with
              | false =>
                obtain ⟨yr, hyr⟩ : ∃ r, l[y]? = some r := ⟨_, List.getElem?_eq_getElem (by rw [HL.out]; exact hyi)⟩
                have c1 := (HCE.out y yr hyr wr (HB.out.trans (HM.out.below.mono HB.out.size))).1
                have c2 := (HCE.out y yr hyr wr (HB.out.trans (HM.out.below.mono HB.out.size))).2
                obtain ⟨A2, d2, w4, ap, m2⟩ := HM.out.push (n := t) (by simp) yr (by omega)
                have em : ((List.range t).map fun a => l.getD (fx false q i a) ([], 0)) ++ [yr] = ((List.range (t + 1)).map fun a => l.getD (fx false q i a) ([], 0)) := by
                  rw [List.range_succ, List.map_append]
                  simp [fx, hy, List.getD_eq_getElem?_getD, hyr]
                rw [em] at m2
                have AP := Bx.mk ap
                have HM2 := Bx.mk m2
                have y0 : (0 : Int) ≤ (y : Int) := by omega
                have y1 : (y : Int) < (i : Int) := by omega
                clear hyr ap em m2 m0 HM hy hyi
                go_wp2_with (first | (at_builtin; refine wpList_append_g rfl _ _ rfl rfl rfl rfl AP.out ?_))
                go_roundw
                case rel => first | exact ⟨t + 1, A2, d2, by omega, rfl, by go_num, HM2⟩ | ((repeat apply Exists.intro); refine ⟨⟨t + 1, A2, d2, by omega, rfl, ?_, HM2⟩, rfl⟩; go_num)
                case measure => (simp [intOf]) <;> omega
              | true =>
                obtain ⟨p, hp⟩ : ∃ p, i - 1 - y = p := ⟨_, rfl⟩
                have hpi : p < i := by omega
                have e1 : (i : Int) - 1 - (y : Int) = (p : Int) := by omega
                have e2 : IntKind.i64.wrap ((i : Int) - 1) = (i : Int) - 1 := by rw [IntKind.wrap_i64]; omega
                have e3 : IntKind.i64.wrap (p : Int) = (p : Int) := by rw [IntKind.wrap_i64]; omega
                obtain ⟨yr, hyr⟩ : ∃ r, l[p]? = some r := ⟨_, List.getElem?_eq_getElem (by rw [HL.out]; exact hpi)⟩
                have c1 := (HCE.out p yr hyr wr (HB.out.trans (HM.out.below.mono HB.out.size))).1
                have c2 := (HCE.out p yr hyr wr (HB.out.trans (HM.out.below.mono HB.out.size))).2
                obtain ⟨A2, d2, w4, ap, m2⟩ := HM.out.push (n := t) (by simp) yr (by omega)
                have em : ((List.range t).map fun a => l.getD (fx true q i a) ([], 0)) ++ [yr] = ((List.range (t + 1)).map fun a => l.getD (fx true q i a) ([], 0)) := by
                  rw [List.range_succ, List.map_append]
                  simp [fx, hy, hp, List.getD_eq_getElem?_getD, hyr]
                rw [em] at m2
                have AP := Bx.mk ap
                have HM2 := Bx.mk m2
                have y0 : (0 : Int) ≤ (p : Int) := by omega
                have y1 : (p : Int) < (i : Int) := by omega
                clear hyr ap em m2 m0 HM hy hyi hp hpi
                go_wp2_with (first | (at_builtin; refine wpList_append_g rfl _ _ rfl rfl rfl rfl AP.out ?_))
                go_roundw
                case rel => first | exact ⟨t + 1, A2, d2, by omega, rfl, by go_num, HM2⟩ | ((repeat apply Exists.intro); refine ⟨⟨t + 1, A2, d2, by omega, rfl, ?_, HM2⟩, rfl⟩; go_num)
                case measure => (simp [intOf]) <;> omega
            · obtain rfl : t = i := by omega
              have HB3 := Bx.mk (HB.out.trans (HM.out.below.mono HB.out.size))
              have hlen : ((List.range t).map fun a => l.getD (fx bk q t a) ([], 0)).length = t := by simp
              have hshort : ∀ x ∈ nms ((List.range t).map fun a => l.getD (fx bk q t a) ([], 0)), x.length ≤ 100000 := fun x hx => by
                unfold nms at hx
                obtain ⟨y, hy, rfl⟩ := List.mem_map.1 hx
                obtain ⟨a, _, rfl⟩ := List.mem_map.1 hy
                rw [List.getD_eq_getElem?_getD]
                cases hh : l[fx bk q t a]? with
                | none => simp
                | some r =>
                  have := HX.out r.1 (List.mem_map.2 ⟨r, List.mem_of_getElem? hh, rfl⟩)
                  simp only [Option.getD_some]
                  omega
              clear m0
              go_wp2_with fail
              refine (HLO.out _ HB3.out).mono ?_
              rintro e w4 ⟨oA, gA, rfl, hoA, hlA, hgA, hb4⟩
              have HB4 := Bx.mk (HB3.out.trans (hb4.mono HB3.out.size))
              have rr := (HM.out.runs hlen).below hb4 (fun g hg => hg.2)
              have HRR := Bx.mk (rr.weak (fun g hg => Nat.lt_of_lt_of_le hg.2 hb4.size))
              have HO2 := Bx.mk (lorder_any (k := k) (ck := ck) (c := c') (HK.out _ HB4.out) (fun g hg => Nat.lt_of_lt_of_le hg HB4.out.size) hlen rr (fun g hg => Nat.lt_of_lt_of_le hg.2 hb4.size) hn16 hshort)
              have HOA := Bx.mk hoA
              have HLA := Bx.mk hlA
              clear hoA hlA hgA hb4 rr hshort hlen
              go_wp2_with fail
              refine HO2.out.mono ?_
              rintro e w5 ⟨oB, gB, rfl, hoB, hlB, hgB, hb5⟩
              have HB5 := Bx.mk (HB4.out.trans (hb5.mono HB4.out.size))
              have HOB := Bx.mk hoB
              have HLB := Bx.mk hlB
              have HLA5 := Bx.mk (HLA.out.below hb5 HLA.out.lt)
              have HRR5 := Bx.mk (HRR.out.below hb5 (fun _ h => h))
              have H45 := Bx.mk hb5
              have HAB := Bx.mk (turned_order HL.out hqn HU.out HOA.out HOB.out)
              have hs0 := Bx.mk (Below.refl w5.heap.size w5)
              clear hoB hlB hgB HLA HO2 HRR HU HOA hb5
              go_wp2_with fail
              go_loopw [20] (fun s20 wr6 => ∃ u : Nat, u ≤ t ∧ s20 = .int .i64 (u : Int) ∧ Bx (Below w5.heap.size w5 wr6)) (fun s20 _ => t - (intOf s20).toNat)
              case atStart => exact ⟨0, by omega, rfl, hs0⟩
              case round =>
                obtain ⟨u, hu, rfl, HBW⟩ := hrel
                by_cases hut : u < t
                · obtain ⟨b, hb⟩ : ∃ b, oB[u]? = some b := ⟨_, List.getElem?_eq_getElem (by rw [HOB.out.len]; exact hut)⟩
                  have hbt := HOB.out.lt hb
                  obtain ⟨r, hr1, hr2⟩ := turned_get (bk := bk) (q := q) HL.out hbt
                  obtain ⟨a, ha⟩ : ∃ a, fx bk q t b = a := ⟨_, rfl⟩
                  have hat : a < t := by rw [← ha]; exact fx_lt (by omega)
                  have hA : oA[u]? = some a := by rw [HAB.out, List.getElem?_map, hb, ← ha]; rfl
                  rw [ha] at hr2
                  have cA : wr.cell? ⟨gA, u, none⟩ = some (.int .i64 (a : Int)) := by
                    rw [(HLA5.out.below HBW.out HLA5.out.lt).cell]
                    have := nats_get hA
                    simpa using this
                  have cB : wr.cell? ⟨gB, u, none⟩ = some (.int .i64 (b : Int)) := by
                    rw [(HLB.out.below HBW.out HLB.out.lt).cell]
                    have := nats_get hb
                    simpa using this
                  have c1 := (HCE.out a r hr2 wr (HB5.out.trans (HBW.out.mono HB5.out.size))).1
                  have c2 := (HCE.out a r hr2 wr (HB5.out.trans (HBW.out.mono HB5.out.size))).2
                  obtain ⟨g2, off2, e2, _, d1, d2⟩ := (HRR5.out.below HBW.out (fun g hg => Nat.lt_of_lt_of_le hg H45.out.size)).cell hr1
                  obtain ⟨rfl⟩ : Bx (A' = some ⟨g2, off2, none⟩) := ⟨e2⟩
                  have u0 : (0 : Int) ≤ (u : Int) := by omega
                  have u1 : (u : Int) < (t : Int) := by omega
                  have a0 : (0 : Int) ≤ (a : Int) := by omega
                  have a1 : (a : Int) < (t : Int) := by omega
                  have b0 : (0 : Int) ≤ (b : Int) := by omega
                  have b1 : (b : Int) < (t : Int) := by omega
                  have ad : decide ((a : Int) < 0) = false := decide_eq_false (by omega)
                  have ag : decide ((a : Int) ≥ (t : Int)) = false := decide_eq_false (by omega)
                  have bd : decide ((b : Int) < 0) = false := decide_eq_false (by omega)
                  have bg : decide ((b : Int) ≥ (t : Int)) = false := decide_eq_false (by omega)
                  have agN : decide (t ≤ a) = false := decide_eq_false (by omega)
                  have bgN : decide (t ≤ b) = false := decide_eq_false (by omega)
                  have sn : ((S r.1).toList == (S r.1).toList) = true := beq_self_eq_true _
                  generalize S r.1 = nm at *
                  generalize r.2 = zz at *
                  clear hb hr1 hr2 ha hA hat hbt HLA5 HLB HAB HOB hs0
                  go_wp2_with fail
                  go_quiet (fail)
                  have HB9 := Bx.mk (HBW.out.trans (((Still.drewN _ nq).below _).mono HBW.out.size))
                  clear HBW cA cB c1 c2 d1 d2
                  go_wp2
                  go_roundw
                  case rel => first | exact ⟨u + 1, by omega, by go_num, HB9⟩ | ((repeat apply Exists.intro); refine ⟨⟨u + 1, by omega, ?_, HB9⟩, rfl⟩; go_num)
                  case measure => (simp [intOf]) <;> omega
                · obtain rfl : u = t := by omega
                  have HB9 := Bx.mk (HB5.out.trans (HBW.out.mono HB5.out.size))
                  go_wp2
                  go_ret
                  exact ⟨rfl, HB9.out⟩
theorem lrow_at {w : World} {K A : Option Addr} {k ck c : Nat} {bs : List Int} {l : List Rn} (hk : Src w (fun g => g < w.heap.size) K k ck bs) (hr : RunsAt w (fun g => g < w.heap.size) A l) (hn : l.length < 8796093022208) (z : Int) (bk : Bool) :
    Calls Try.prog 8 #[.slice K k ck, .slice A l.length c, .int .i64 z, .bool bk] w (True_ w) := by
  obtain ⟨key, rfl⟩ := ints_of hk.rng
  exact lrow_any hk rfl hr hn z bk
end Go.Proofs.Ytimlcjdpnhhjdaa.rk
