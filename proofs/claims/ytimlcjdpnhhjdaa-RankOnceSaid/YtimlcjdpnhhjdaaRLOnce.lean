/-
  Given for the seat's laws: the law RankOnce answers true over whatever memory. No condition but those of the theorems.
-/
import Derived.Test.YtimlcjdpnhhjdaaRLLess
import Derived.Deep.RegionHeld3
import Derived.BigQuiet
namespace Go.Proofs.Ytimlcjdpnhhjdaa.rk
open Go.RowKit mem sp
set_option linter.unusedVariables false

theorem mk_bools {n : Nat} (hn : n ≤ 1000) (w : World) : (Instr.makeSlice 38 (.int .i64 (n : Int)) (.int .i64 (n : Int))).run Try.prog w = .ok (.slice (some ⟨w.heap.size, 0, none⟩) n n) (w.alloc (.cells (madeCells #[.bool false] n) 4)) :=
  run_make_row' (P := Try.prog) 38 4 (.bool false) 1 Try.underlying38 (by kernel_rfl) rfl .i64 .i64 n (by omega) (by omega) w
/-- an order, and which of its places were met -/
structure OS (w : World) (g gs : Nat) (o : List Nat) (n i : Nat) (wr : World) : Prop where
  ord : Lies wr g 3 (nats o).toArray
  seen : wr.rowIs gs 4 n (fun j => .bool (decide (j ∈ o.take i)))
  below : Below w.heap.size w wr
  ne : g ≠ gs
  ge : w.heap.size ≤ gs
section
variable {w wr w2 : World} {g gs n i : Nat} {o : List Nat}
theorem OS.fresh (h : OS w g gs o n i wr) (hb : Below wr.heap.size wr w2) : OS w g gs o n i w2 := ⟨h.ord.below hb h.ord.lt, h.seen.of_block (hb.block gs h.seen.lt), h.below.trans (hb.mono h.below.size), h.ne, h.ge⟩
theorem OS.drew (h : OS w g gs o n i wr) : OS w g gs o n i wr.drew := ⟨h.ord, h.seen.drew, h.below.drew, h.ne, h.ge⟩
theorem OS.oc (h : OS w g gs o n i wr) {j x : Nat} (hx : o[j]? = some x) : wr.cell? ⟨g, j, none⟩ = some (.int .i64 (x : Int)) := by
  rw [h.ord.cell]
  have := nats_get hx
  simpa using this
theorem OS.mark (h : OS w g gs o n i wr) {y : Nat} (hy : o[i]? = some y) (hyn : y < n) : OS w g gs o n (i + 1) (wr.setCell ⟨gs, y, none⟩ (.bool true)) := by
  refine ⟨h.ord.far (p := ⟨gs, y, none⟩) h.ne _, (h.seen.set y (.bool true)).congr (fun j hj => ?_), h.below.setCell (p := ⟨gs, y, none⟩) h.ge _, h.ne, h.ge⟩
  rw [List.take_add_one, hy]
  by_cases e : j = y
  · subst e
    simp
  · rw [if_neg e]
    simp [e]
end

set_option maxHeartbeats 4000000 in
set_option maxRecDepth 100000 in
theorem once_any {w : World} {K A : Option Addr} {k ck n c : Nat} {key : Str} {l : List Rn} (hk : Spell w (fun g => g < w.heap.size) K k ck key) (hl : l.length = n) (hr : RunsAt w (fun g => g < w.heap.size) A l) (hn : n < 8796093022208) :
    Calls Try.prog 5 #[.slice K k ck, .slice A n c] w (True_ w) := by
  have HAW := Bx.mk (awake_any w)
  unfold True_ at HAW
  have HG : Bx (∀ W, Below w.heap.size w W → Calls Try.prog 18 #[.slice K k ck, .slice A n c] W fun e w' => e = .returned (.bool (gr k (nms l))) ∧ Below W.heap.size W w') := ⟨fun W hW => lgreat_any hl (hr.below hW (fun _ h => h)) (fun g hg => Nat.lt_of_lt_of_le hg hW.size) hn⟩
  obtain ⟨gg, hgg⟩ : ∃ gg, gr k (nms l) = gg := ⟨_, rfl⟩
  rw [hgg] at HG
  cases gg with
  | true =>
    clear hk hl hr hgg
    go_enter Try.func5, Try.ntmps5
    go_wp2_with fail
    refine HAW.out.mono ?_
    rintro e w1 ⟨rfl, hb1⟩
    have HB1 := Bx.mk hb1
    clear hb1
    go_wp2_with fail
    refine (HG.out _ HB1.out).mono ?_
    rintro e w2 ⟨rfl, hb2⟩
    have HB2 := Bx.mk (HB1.out.trans (hb2.mono HB1.out.size))
    clear hb2
    go_wp2
    go_ret
    exact ⟨rfl, HB2.out⟩
  | false =>
    obtain ⟨hk100, hn16, hx40⟩ := gr_no hgg
    rw [nms_len, hl] at hn16
    have HLO : Bx (∀ W, Below w.heap.size w W → Calls Try.prog 19 #[.slice K k ck, .slice A n c] W (OrdTo (SR key l) n W)) := ⟨fun W hW => lorder_any (hk.below hW (fun _ h => h)) (fun g hg => Nat.lt_of_lt_of_le hg hW.size) hl (hr.below hW (fun _ h => h)) (fun g hg => Nat.lt_of_lt_of_le hg hW.size) hn16 (fun x hx => by have := hx40 x hx; omega)⟩
    have HSC : Bx (∀ (x : Rn), x ∈ l → ∀ W, Below w.heap.size w W → Calls Try.prog 10 #[.slice K k ck, .string (S x.1), .int .i64 x.2] W (TellTo (scoK key x.1 x.2) W)) := ⟨fun x hx W hW => score_any (hk.below hW (fun _ h => h)) (fun g hg => Nat.lt_of_lt_of_le hg hW.size) x.1 (by have := hx40 x.1 (List.mem_map.2 ⟨x, hx, rfl⟩); omega) x.2⟩
    have HR := Bx.mk hr
    have HL := Bx.mk hl
    have mk3 := fun w => mk_bools (n := n) (by omega) w
    clear hk hl hr hgg hx40
    go_enter Try.func5, Try.ntmps5
    go_wp2_with fail
    refine HAW.out.mono ?_
    rintro e w1 ⟨rfl, hb1⟩
    have HB1 := Bx.mk hb1
    clear hb1
    go_wp2_with fail
    refine (HG.out _ HB1.out).mono ?_
    rintro e w2 ⟨rfl, hb2⟩
    have HB2 := Bx.mk (HB1.out.trans (hb2.mono HB1.out.size))
    clear hb2
    go_wp2_with fail
    refine (HLO.out _ HB2.out).mono ?_
    rintro e w3 ⟨o, g, rfl, ho, hlies, hg, hb3⟩
    have HB3 := Bx.mk (HB2.out.trans (hb3.mono HB2.out.size))
    have HO := Bx.mk ho
    have h0 : Bx (OS w g w3.heap.size o n 0 (w3.alloc (.cells (madeCells #[.bool false] n) 4))) := ⟨hlies.alloc _, (World.rowIs_made w3 (.bool false) n 4).congr (fun j hj => by simp), HB3.out.alloc HB3.out.size _, by have := hlies.lt; omega, HB3.out.size⟩
    generalize madeCells #[.bool false] n = z1 at *
    clear ho hlies hg hb3
    go_wp2
    go_loopw [7] (fun s7 wr => ∃ i : Nat, i ≤ n ∧ s7 = .int .i64 (i : Int) ∧ Bx (OS w g w3.heap.size o n i wr)) (fun s7 _ => n - (intOf s7).toNat)
    case atStart => exact ⟨0, by omega, rfl, h0⟩
    case round =>
      clear h0 mk3
      obtain ⟨i, hi, rfl, HM⟩ := hrel
      by_cases hlt : i < n
      · obtain ⟨y, hy⟩ : ∃ y, o[i]? = some y := ⟨_, List.getElem?_eq_getElem (by rw [HO.out.len]; exact hlt)⟩
        have hyn := HO.out.lt hy
        have hnot : y ∉ o.take i := fun hm => by
          obtain ⟨j, hj⟩ := List.mem_iff_getElem?.1 hm
          rw [List.getElem?_take] at hj
          split at hj
          · have := HO.out.step (by assumption) hj hy
            rw [before_irrefl] at this
            cases this
          · cases hj
        have cy := HM.out.oc hy
        have sy := HM.out.seen.cell hyn
        have fy := HM.out.seen.frozen y
        have hsy : decide (y ∈ o.take i) = false := decide_eq_false hnot
        rw [hsy] at sy
        have HM2 := Bx.mk (HM.out.mark hy hyn)
        have i0 : (0 : Int) ≤ (i : Int) := by omega
        have i1 : (i : Int) < (n : Int) := by omega
        have y0 : (0 : Int) ≤ (y : Int) := by omega
        have y1 : (y : Int) < (n : Int) := by omega
        have HY := Bx.mk hy
        clear hnot hsy hy
        by_cases hz : i = 0
        · subst hz
          clear HM HY
          go_wp2
          go_roundw
          case rel => exact ⟨1, by omega, by go_num, HM2⟩
          case measure => simp [intOf]; omega
        · have hne : ((i : Int) == 0) = false := beq_eq_false_iff_ne.2 (by omega)
          obtain ⟨p, hp⟩ : ∃ p, p + 1 = i := ⟨i - 1, by omega⟩
          have hpz : (i : Int) - 1 = (p : Int) := by omega
          have hpw : IntKind.i64.wrap (p : Int) = (p : Int) := by rw [IntKind.wrap_i64]; omega
          have p0 : (0 : Int) ≤ (p : Int) := by omega
          have p1 : (p : Int) < (n : Int) := by omega
          obtain ⟨x, hx⟩ : ∃ x, o[p]? = some x := ⟨_, List.getElem?_eq_getElem (by rw [HO.out.len]; omega)⟩
          have hxn := HO.out.lt hx
          have x0 : (0 : Int) ≤ (x : Int) := by omega
          have x1 : (x : Int) < (n : Int) := by omega
          have hbf := HO.out.step (show p < i by omega) hx HY.out
          obtain ⟨rx, hrx⟩ : ∃ r, l[x]? = some r := ⟨_, List.getElem?_eq_getElem (by rw [HL.out]; exact hxn)⟩
          obtain ⟨ry, hry⟩ : ∃ r, l[y]? = some r := ⟨_, List.getElem?_eq_getElem (by rw [HL.out]; exact hyn)⟩
          have hSx := SR_get (key := key) hrx
          have hSy := SR_get (key := key) hry
          have SX := Bx.mk (HSC.out rx (List.mem_of_getElem? hrx))
          have SY := Bx.mk (HSC.out ry (List.mem_of_getElem? hry))
          unfold TellTo at SX SY
          obtain ⟨sx, hsx⟩ : ∃ s, scoK key rx.1 rx.2 = s := ⟨_, rfl⟩
          obtain ⟨sy', hsy'⟩ : ∃ s, scoK key ry.1 ry.2 = s := ⟨_, rfl⟩
          rw [hsx] at hSx SX
          rw [hsy'] at hSy SY
          obtain ⟨hx', tx⟩ := sx
          obtain ⟨hy', ty⟩ := sy'
          have hcond : hx' = true ∧ hy' = false ∨ hx' = hy' ∧ (tx = ty ∧ x < y ∨ ty < tx) := by
            unfold before at hbf
            rw [hSx, hSy] at hbf
            dsimp only at hbf
            split at hbf
            · next e =>
              right
              refine ⟨e, ?_⟩
              split at hbf
              · next e2 => exact .inl ⟨e2, of_decide_eq_true hbf⟩
              · exact .inr (of_decide_eq_true hbf)
            · next e =>
              left
              cases hx' <;> cases hy' <;> simp_all
          have HCO := Bx.mk hcond
          obtain ⟨A0, off, eA, hA, -⟩ := HR.out.cell hrx
          subst eA
          have HCX : Bx (∀ W, Below w.heap.size w W → W.cell? ⟨A0, off + x * 2, none⟩ = some (.string (S rx.1)) ∧ W.cell? ⟨A0, off + x * 2 + 1, none⟩ = some (.int .i64 rx.2)) := ⟨fun W hW => by
            obtain ⟨g', o', e, _, c1, c2⟩ := (HR.out.below hW (fun _ h => h)).cell hrx
            cases e
            exact ⟨c1, c2⟩⟩
          have HCY : Bx (∀ W, Below w.heap.size w W → W.cell? ⟨A0, off + y * 2, none⟩ = some (.string (S ry.1)) ∧ W.cell? ⟨A0, off + y * 2 + 1, none⟩ = some (.int .i64 ry.2)) := ⟨fun W hW => by
            obtain ⟨g', o', e, _, c1, c2⟩ := (HR.out.below hW (fun _ h => h)).cell hry
            cases e
            exact ⟨c1, c2⟩⟩
          have HX := Bx.mk hx
          obtain ⟨nx, hnx⟩ : ∃ q, S rx.1 = q := ⟨_, rfl⟩
          obtain ⟨zx, hzx⟩ : ∃ q, rx.2 = q := ⟨_, rfl⟩
          obtain ⟨ny, hny⟩ : ∃ q, S ry.1 = q := ⟨_, rfl⟩
          obtain ⟨zy, hzy⟩ : ∃ q, ry.2 = q := ⟨_, rfl⟩
          rw [hnx, hzx] at SX HCX
          rw [hny, hzy] at SY HCY
          obtain ⟨wq, hwq⟩ : ∃ wq, wq = wr.setCell ⟨w3.heap.size, y, none⟩ (.bool true) := ⟨_, rfl⟩
          rw [← hwq] at HM2
          clear hbf hrx hry hSx hSy hsx hsy' hcond hx hA hp hnx hzx hny hzy HM hz
          go_upto_region 16 with fail
          rw [← hwq]
          clear hwq cy sy fy
          have HMD := Bx.mk HM2.out.drew
          have c1 := HM2.out.oc HX.out
          have c2 := (HCX.out _ HM2.out.below).1
          have c3 := (HCX.out _ HM2.out.below).2
          go_region_held3 (fun W' => W'.cell? ⟨g, p, none⟩ = some (.int .i64 (x : Int)) ∧ W'.cell? ⟨A0, off + x * 2, none⟩ = some (.string nx) ∧ W'.cell? ⟨A0, off + x * 2 + 1, none⟩ = some (.int .i64 zx))
            (first | exact ⟨c1, c2, c3⟩ | exact ⟨m1, m2, m3⟩)
            (first | (go_at_call 10; refine (SX.out _ HMD.out.below).mono ?_; rintro e w5 ⟨rfl, hb5⟩; have HM5 := HMD.out.fresh hb5; have m1 := HM5.oc HX.out; have m2 := (HCX.out _ HM5.below).1; have m3 := (HCX.out _ HM5.below).2))
          all_goals
            have HM6 := Bx.mk HM5
            clear m1 m2 m3 HM5 hb5 c1 c2 c3 HM2 HMD SX
            have c1 := HM6.out.oc HY.out
            have c2 := (HCY.out _ HM6.out.below).1
            have c3 := (HCY.out _ HM6.out.below).2
            go_wp2_with fail
            have HMD := Bx.mk HM6.out.drew
            go_region_held3 (fun W' => W'.cell? ⟨g, i, none⟩ = some (.int .i64 (y : Int)) ∧ W'.cell? ⟨A0, off + y * 2, none⟩ = some (.string ny) ∧ W'.cell? ⟨A0, off + y * 2 + 1, none⟩ = some (.int .i64 zy))
              (first | exact ⟨c1, c2, c3⟩ | exact ⟨m1, m2, m3⟩)
              (first | (go_at_call 10; refine (SY.out _ HMD.out.below).mono ?_; rintro e w7 ⟨rfl, hb7⟩; have HM7 := HMD.out.fresh hb7; have m1 := HM7.oc HY.out; have m2 := (HCY.out _ HM7.below).1; have m3 := (HCY.out _ HM7.below).2))
            all_goals
              have HM8 := Bx.mk HM7
              clear m1 m2 m3 HM7 hb7 c1 c2 c3 HM6 HMD SY
              have c1 := HM8.out.oc HX.out
              have c2 := HM8.out.oc HY.out
              rcases HCO.out with ⟨e1, e2⟩ | ⟨e1, ⟨e2, e3⟩ | e2⟩
              · subst e1
                subst e2
                clear HCO
                go_wp2_with fail
                go_quiet (fail)
                have HM9 := Bx.mk (HM8.out.fresh ((Still.drewN _ nq).below _))
                clear HM8 c1 c2
                go_wp2
                go_roundw
                case rel => exact ⟨i + 1, by omega, by go_num, HM9⟩
                case measure => simp [intOf]; omega
              · subst e1
                subst e2
                have e3z : (x : Int) ≤ (y : Int) := by omega
                have e3d : decide ((x : Int) > (y : Int)) = false := decide_eq_false (by omega)
                clear HCO
                cases hx' with
                | true =>
                  have t1 : decide (tx < tx) = false := decide_eq_false (by omega)
                  go_wp2_with fail
                  go_quiet (fail)
                  have HM9 := Bx.mk (HM8.out.fresh ((Still.drewN _ nq).below _))
                  clear HM8 c1 c2
                  go_wp2
                  go_roundw
                  case rel => exact ⟨i + 1, by omega, by go_num, HM9⟩
                  case measure => simp [intOf]; omega
                | false =>
                  go_wp2_with fail
                  go_quiet (fail)
                  have HM9 := Bx.mk (HM8.out.fresh ((Still.drewN _ nq).below _))
                  clear HM8 c1 c2
                  go_wp2
                  go_roundw
                  case rel => exact ⟨i + 1, by omega, by go_num, HM9⟩
                  case measure => simp [intOf]; omega
              · subst e1
                have t0 : (tx == ty) = false := beq_eq_false_iff_ne.2 (by omega)
                have t2 : ty ≤ tx := by omega
                have t3 : decide (tx < ty) = false := decide_eq_false (by omega)
                clear HCO
                cases hx' with
                | true =>
                  go_wp2_with fail
                  go_quiet (fail)
                  have HM9 := Bx.mk (HM8.out.fresh ((Still.drewN _ nq).below _))
                  clear HM8 c1 c2
                  go_wp2
                  go_roundw
                  case rel => exact ⟨i + 1, by omega, by go_num, HM9⟩
                  case measure => simp [intOf]; omega
                | false =>
                  go_wp2_with fail
                  go_quiet (fail)
                  have HM9 := Bx.mk (HM8.out.fresh ((Still.drewN _ nq).below _))
                  clear HM8 c1 c2
                  go_wp2
                  go_roundw
                  case rel => exact ⟨i + 1, by omega, by go_num, HM9⟩
                  case measure => simp [intOf]; omega
      · obtain rfl : i = n := by omega
        go_wp2
        go_ret
        exact ⟨rfl, HM.out.below⟩
theorem once_at {w : World} {K A : Option Addr} {k ck c : Nat} {bs : List Int} {l : List Rn} (hk : Src w (fun g => g < w.heap.size) K k ck bs) (hr : RunsAt w (fun g => g < w.heap.size) A l) (hn : l.length < 8796093022208) :
    Calls Try.prog 5 #[.slice K k ck, .slice A l.length c] w (True_ w) := by
  obtain ⟨key, rfl⟩ := ints_of hk.rng
  exact once_any hk rfl hr hn
end Go.Proofs.Ytimlcjdpnhhjdaa.rk
