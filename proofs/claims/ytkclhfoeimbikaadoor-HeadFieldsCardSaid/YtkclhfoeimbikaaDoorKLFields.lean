/-
  Given for the seat's laws: HeadFields at any number and bool. No condition but those of the theorem.
-/
import Derived.Test.YtkclhfoeimbikaaDoorKPure3
import Derived.Test.YtkclhfoeimbikaaDoorKLOnce
namespace Go.Proofs.YtkclhfoeimbikaaDoor.hd
open Go.RowKit mem
set_option linter.unusedVariables false

theorem ofNat_nat {k : Nat} (h : k < 256) : ((UInt8.ofNat k).toNat : Int) = (k : Int) := by simp; omega
/-- a literal of one byte as a text -/
theorem conv_one (x : UInt8) (V V' : World) (hb : Below (V.alloc (.cells #[.int .u8 (x.toNat : Int)] 5)).heap.size (V.alloc (.cells #[.int .u8 (x.toNat : Int)] 5)) V') : (convert 22 9 (.slice (some ⟨V.heap.size, 0, none⟩) 1 1)).run Tryd.prog V' = .ok (.string (S [x])) V' :=
  spell_str (c := 1) (n := 1) ((src_lit V (ints [x]) (0, 0) (ints_rng _) (by simp [ints])).below hb (fun g hg => by subst hg; simp))
theorem below_drewN {B : Nat} {w w' : World} (h : Below B w w') (n : Nat) : Below B w (w'.drewN n) := ⟨h.os, h.tape, h.output, h.size, h.block⟩
theorem two_below (w : World) (X Y : Obj) : Below (w.alloc X).heap.size (w.alloc X) ((w.alloc X).alloc Y).drew := ((Below.refl _ _).alloc (Nat.le_refl _) _).drew
set_option maxHeartbeats 8000000 in
set_option maxRecDepth 100000 in
theorem fields_walk {w : World} {k : Int} {gap : Bool} (h0 : 0 ≤ k) (h1 : k < 256) : Calls Tryd.prog 8 #[.int .u8 k, .bool gap] w (True_ w) := by
  have HAW := Bx.mk (awake_any w)
  obtain ⟨n, hn⟩ : ∃ n : Nat, k % 21 = (n : Int) := ⟨(k % 21).toNat, by omega⟩
  have hn20 : n ≤ 20 := by omega
  have hn' : k.tmod 21 = (n : Int) := by rw [Int.tmod_eq_emod_of_nonneg h0]; exact hn
  go_enter Tryd.func8, Tryd.ntmps8
  go_wp2_with fail
  refine HAW.out.mono ?_
  rintro e w1 ⟨rfl, hb1⟩
  have HB1 := Bx.mk hb1
  clear hb1 HAW
  go_wp2_with fail
  go_loopw [6, 7] (fun s6 s7 wr => ∃ i : Nat, i ≤ n ∧ i ≤ 16 ∧ s6 = .string (S (ft gap i)) ∧ s7 = .int .i64 (i : Int) ∧ Bx (Below w.heap.size w wr)) (fun s6 s7 _ => n - (intOf s7).toNat)
  case atStart => exact ⟨0, by omega, by omega, rfl, rfl, HB1⟩
  case round =>
    clear HB1
    obtain ⟨i, hi, hi16, rfl, rfl, HB⟩ := hrel
    have hfl := ft_len gap i
    by_cases hlt : i < n ∧ i < 16
    · obtain ⟨hl1, hl2⟩ := hlt
      have i1 : (i : Int) < (n : Int) := by omega
      have i2 : (i : Int) < 16 := by omega
      obtain ⟨x, hx⟩ : ∃ x, x = UInt8.ofNat (97 + i) := ⟨_, rfl⟩
      obtain ⟨y, hy⟩ : ∃ y, y = UInt8.ofNat (65 + i) := ⟨_, rfl⟩
      have hxi : (97 : Int) + (i : Int) = (x.toNat : Int) := by rw [hx, ofNat_nat (by omega)]; omega
      have hyi : (65 : Int) + (i : Int) = (y.toNat : Int) := by rw [hy, ofNat_nat (by omega)]; omega
      have hxl : (x.toNat : Int) < 256 := by have := x.toNat_lt; omega
      have hyl : (y.toNat : Int) < 256 := by have := y.toNat_lt; omega
      have hx0 : (0 : Int) ≤ (x.toNat : Int) := by omega
      have hy0 : (0 : Int) ≤ (y.toNat : Int) := by omega
      have v1 := conv_one x wr (wr.alloc (.cells #[.int .u8 (x.toNat : Int)] 5)) (Below.refl _ _)
      have v2 := conv_one y (wr.alloc (.cells #[.int .u8 (x.toNat : Int)] 5)) ((wr.alloc (.cells #[.int .u8 (x.toNat : Int)] 5)).alloc (.cells #[.int .u8 (y.toNat : Int)] 5)) (Below.refl _ _)
      have es : (wr.alloc (.cells #[.int .u8 (x.toNat : Int)] 5)).heap.size = wr.heap.size + 1 := by simp
      rw [es] at v2
      have HB2 : Bx (Below w.heap.size w ((wr.alloc (.cells #[.int .u8 (x.toNat : Int)] 5)).alloc (.cells #[.int .u8 (y.toNat : Int)] 5))) := ⟨(HB.out.alloc HB.out.size _).alloc (by have := HB.out.size; simp; omega) _⟩
      clear es hl1 hl2
      cases gap with
      | false =>
        obtain ⟨t0, h0⟩ : ∃ t, t = ft false i := ⟨_, rfl⟩
        obtain ⟨t1, h1⟩ : ∃ t, t = t0 ++ [110] := ⟨_, rfl⟩
        have c1 : ∀ W, (Op.stringOp .add (S t0) ⟨#[110]⟩).run Tryd.prog W = .ok (.string (S t1)) W := fun W => by rw [h1]; exact cat t0 [110] (by simp [*]; omega) (by simp) W
        obtain ⟨t2, h2⟩ : ∃ t, t = t1 ++ [x] := ⟨_, rfl⟩
        have c2 : ∀ W, (Op.stringOp .add (S t1) (S [x])).run Tryd.prog W = .ok (.string (S t2)) W := fun W => by rw [h2]; exact cat t1 [x] (by simp [*]; omega) (by simp) W
        obtain ⟨t3, h3⟩ : ∃ t, t = t2 ++ [58] := ⟨_, rfl⟩
        have c3 : ∀ W, (Op.stringOp .add (S t2) ⟨#[58]⟩).run Tryd.prog W = .ok (.string (S t3)) W := fun W => by rw [h3]; exact cat t2 [58] (by simp [*]; omega) (by simp) W
        obtain ⟨t4, h4⟩ : ∃ t, t = t3 ++ [y] := ⟨_, rfl⟩
        have c4 : ∀ W, (Op.stringOp .add (S t3) (S [y])).run Tryd.prog W = .ok (.string (S t4)) W := fun W => by rw [h4]; exact cat t3 [y] (by simp [*]; omega) (by simp) W
        obtain ⟨t5, h5⟩ : ∃ t, t = t4 ++ [13, 10] := ⟨_, rfl⟩
        have c5 : ∀ W, (Op.stringOp .add (S t4) ⟨#[13, 10]⟩).run Tryd.prog W = .ok (.string (S t5)) W := fun W => by rw [h5]; exact cat t4 [13, 10] (by simp [*]; omega) (by simp) W
        have HQ : Bx (ft false (i + 1) = t5) := ⟨by simp [ft, fl, fa, vl, *]⟩
        rw [← h0]
        clear h0 h1 h2 h3 h4 h5 hx hy hfl
        go_wp2_with fail
        go_roundw
        case rel => exact ⟨i + 1, by omega, by omega, by rw [HQ.out], by go_num, HB2⟩
        case measure => simp [intOf]; omega
      | true =>
        obtain ⟨t0, h0⟩ : ∃ t, t = ft true i := ⟨_, rfl⟩
        obtain ⟨t1, h1⟩ : ∃ t, t = t0 ++ [110] := ⟨_, rfl⟩
        have c1 : ∀ W, (Op.stringOp .add (S t0) ⟨#[110]⟩).run Tryd.prog W = .ok (.string (S t1)) W := fun W => by rw [h1]; exact cat t0 [110] (by simp [*]; omega) (by simp) W
        obtain ⟨t2, h2⟩ : ∃ t, t = t1 ++ [x] := ⟨_, rfl⟩
        have c2 : ∀ W, (Op.stringOp .add (S t1) (S [x])).run Tryd.prog W = .ok (.string (S t2)) W := fun W => by rw [h2]; exact cat t1 [x] (by simp [*]; omega) (by simp) W
        obtain ⟨t3, h3⟩ : ∃ t, t = t2 ++ [58] := ⟨_, rfl⟩
        have c3 : ∀ W, (Op.stringOp .add (S t2) ⟨#[58]⟩).run Tryd.prog W = .ok (.string (S t3)) W := fun W => by rw [h3]; exact cat t2 [58] (by simp [*]; omega) (by simp) W
        obtain ⟨t4, h4⟩ : ∃ t, t = t3 ++ [32, 9] := ⟨_, rfl⟩
        have c4 : ∀ W, (Op.stringOp .add (S t3) ⟨#[32, 9]⟩).run Tryd.prog W = .ok (.string (S t4)) W := fun W => by rw [h4]; exact cat t3 [32, 9] (by simp [*]; omega) (by simp) W
        obtain ⟨t5, h5⟩ : ∃ t, t = t4 ++ [y] := ⟨_, rfl⟩
        have c5 : ∀ W, (Op.stringOp .add (S t4) (S [y])).run Tryd.prog W = .ok (.string (S t5)) W := fun W => by rw [h5]; exact cat t4 [y] (by simp [*]; omega) (by simp) W
        obtain ⟨t6, h6⟩ : ∃ t, t = t5 ++ [13, 10] := ⟨_, rfl⟩
        have c6 : ∀ W, (Op.stringOp .add (S t5) ⟨#[13, 10]⟩).run Tryd.prog W = .ok (.string (S t6)) W := fun W => by rw [h6]; exact cat t5 [13, 10] (by simp [*]; omega) (by simp) W
        have HQ : Bx (ft true (i + 1) = t6) := ⟨by simp [ft, fl, fa, vl, *]⟩
        rw [← h0]
        clear h0 h1 h2 h3 h4 h5 h6 hx hy hfl
        go_wp2_with fail
        go_roundw
        case rel => exact ⟨i + 1, by omega, by omega, by rw [HQ.out], by go_num, HB2⟩
        case measure => simp [intOf]; omega
    · rcases (show (i = n ∧ n ≤ 16) ∨ (i = 16 ∧ 16 < n) by omega) with ⟨rfl, hi2⟩ | ⟨rfl, hi2⟩
      · obtain ⟨t, ht⟩ : ∃ t, t = ft gap i := ⟨_, rfl⟩
        have hok := ft_ok gap i hi2
        have hmx := ft_len gap i
        rw [← ht] at hok hmx
        rw [← ht]
        obtain ⟨u, hu⟩ : ∃ u, u = t ++ [13, 10] := ⟨_, rfl⟩
        have c1 : ∀ W, (Op.stringOp .add (S t) ⟨#[13, 10]⟩).run Tryd.prog W = .ok (.string (S u)) W := fun W => by rw [hu]; exact cat t [13, 10] (by omega) (by simp) W
        have hul : u.length = t.length + 2 := by rw [hu]; simp
        have hsz := S_size t
        rw [← hu] at hok
        have q1 : ¬ (i : Int) < (i : Int) := by omega
        have q2 : ¬ (16 : Int) < (i : Int) := by omega
        have hconv := conv_any (S u) wr
        rw [S_size] at hconv
        have hr := conv_row u wr (by omega)
        have hb := conv_below (S u) wr
        generalize Lib.bytesWorld wr 5 (S u) = W0 at *
        generalize grownCap wr u.length 0 5 = cc at *
        have HTk := Bx.mk (take_any0 (hr.spell rfl) (fun g hg => hg))
        have HB2 := Bx.mk (HB.out.trans (hb.mono HB.out.size))
        have HOK := Bx.mk hok
        obtain ⟨m, hm⟩ : ∃ m, t.length = m := ⟨_, rfl⟩
        rw [hul, hm] at hconv HTk
        rw [hm] at hsz hmx HOK
        clear hr hb hok hul hm hu ht hlt hfl HB
        go_wp2_with fail
        refine HTk.out.mono ?_
        intro en w3 htk
        obtain ⟨A, c, rfl, hr, hb⟩ := take_b HOK.out htk
        have L := Lies.new w3 25 #[.string (S [65]), .slice A (ff i).length c]
        have hal := (Below.refl w3.heap.size w3).alloc (Nat.le_refl _) (.cells #[.string (S [65]), .slice A (ff i).length c] 25)
        have hb3 := HB2.out.trans ((hb.mono HB2.out.size).trans (hal.mono (Nat.le_trans HB2.out.size hb.size)))
        have HB3 := Bx.mk hb3
        have hf := (rowF_at hr rfl).below hal (fun g hg => hg)
        have HF : Bx (FAt (w3.alloc (.cells #[.string (S [65]), .slice A (ff i).length c] 25)) (fun g => g < (w3.alloc (.cells #[.string (S [65]), .slice A (ff i).length c] 25)).heap.size) A (ff i).length c (ff i)) := ⟨hf.weak fun g hg => Nat.lt_of_lt_of_le hg hal.size⟩
        have HLs := Bx.mk L
        clear htk hr hb hb3 hf L hal HB2 HTk HOK
        rw [ff_len] at *
        go_upto_region 15 with fail
        generalize w3.alloc (.cells #[.string (S [65]), .slice A i c] 25) = W3 at *
        generalize w3.heap.size = gh at *
        have z0 := HLs.out.cell 0; have z1 := HLs.out.cell 1
        simp at z0 z1
        have q3 : ((m : Int) + 2 != IntKind.i64.wrap ((m : Int) + 2)) = false := by rw [IntWalk.i64_in _ (by omega)]; simp
        go_wp2_with fail
        clear c1 hconv z0 z1 q1 q2 q3 hmx hsz
        have H0 := Bx.mk (Below.refl W3.heap.size W3)
        go_loopw [11] (fun s11 wr => ∃ j : Nat, j ≤ i ∧ s11 = .int .i64 (j : Int) ∧ Bx (Below W3.heap.size W3 wr)) (fun s11 _ => i - (intOf s11).toNat)
        case atStart => exact ⟨0, by omega, rfl, H0⟩
        case round =>
          clear H0
          obtain ⟨j, hj, rfl, HBj⟩ := hrel
          by_cases hlt : j < i
          · have hLw := HLs.out.below HBj.out HLs.out.lt
            have hFw := HF.out.below HBj.out (fun g hg => hg)
            obtain ⟨gf, off, rfl, hgf, y0, y1⟩ := hFw.at (ff_at hlt)
            have j0 : (0 : Int) ≤ (j : Int) := by omega
            have j1 : (j : Int) < (i : Int) := by omega
            have ghl : gh < wr.heap.size := hLw.lt
            have gfl : gf < wr.heap.size := Nat.lt_of_lt_of_le hgf HBj.out.size
            have z0 := hLw.cell 0; have z1 := hLw.cell 1
            simp at z0 z1
            have HBW := Bx.mk (HB3.out.trans (HBj.out.mono HB3.out.size))
            obtain ⟨x, hx⟩ : ∃ x, x = UInt8.ofNat (97 + j) := ⟨_, rfl⟩
            obtain ⟨y, hy⟩ : ∃ y, y = UInt8.ofNat (65 + j) := ⟨_, rfl⟩
            have hxi : (97 : Int) + (j : Int) = (x.toNat : Int) := by rw [hx, ofNat_nat (by omega)]; omega
            have hyi : (65 : Int) + (j : Int) = (y.toNat : Int) := by rw [hy, ofNat_nat (by omega)]; omega
            have hxl : (x.toNat : Int) < 256 := by have := x.toNat_lt; omega
            have hyl : (y.toNat : Int) < 256 := by have := y.toNat_lt; omega
            have hx0 : (0 : Int) ≤ (x.toNat : Int) := by omega
            have hy0 : (0 : Int) ≤ (y.toNat : Int) := by omega
            have hnm : nm j = [110] ++ [x] := by rw [hx]; rfl
            have hvl : vl j = [y] := by rw [hy]; rfl
            obtain ⟨N, hN⟩ : ∃ N, N = nm j := ⟨_, rfl⟩
            have cc1 : ∀ W, (Op.stringOp .add ⟨#[110]⟩ (S [x])).run Tryd.prog W = .ok (.string (S N)) W := fun W => by rw [hN, hnm]; exact cat [110] [x] (by simp) (by simp) W
            have ce : ∀ W, (Op.equalIn 10000 49 (.agg #[.string (S N), .string (S [y])]) (.agg #[.string (S N), .string (S [y])])).run Tryd.prog W = .ok true W := fun W => by
              have := eq_two_d 9998 (N, [y]) (N, [y]) W
              rw [decide_eq_true rfl] at this
              exact this
            have HV : Bx (vals (ff i) N = [[y]]) := ⟨by rw [hN, ff_vals hlt hi16, hvl]⟩
            have HNV : Bx ((ff i)[j]? = some (N, [y])) := ⟨by rw [ff_at hlt, hN, hvl]⟩
            simp only [← hN, hvl] at y0 y1
            have r0 := Below.refl wr.heap.size wr
            have bx : Below wr.heap.size wr (((wr.alloc (.cells #[.int .u8 (x.toNat : Int)] 5)).alloc (.cells #[.int .u8 (y.toNat : Int)] 5)).drew) := ((r0.alloc (Nat.le_refl _) _).alloc (by simp) _).drew
            have by' : Below wr.heap.size wr (((wr.alloc (.cells #[.int .u8 (y.toNat : Int)] 5)).alloc (.cells #[.int .u8 (x.toNat : Int)] 5)).drew) := ((r0.alloc (Nat.le_refl _) _).alloc (by simp) _).drew
            have v1 : (convert 22 9 (.slice (some ⟨wr.heap.size, 0, none⟩) 1 1)).run Tryd.prog ((wr.alloc (.cells #[.int .u8 (x.toNat : Int)] 5)).drew) = .ok (.string (S [x])) ((wr.alloc (.cells #[.int .u8 (x.toNat : Int)] 5)).drew) := conv_one x wr _ (Below.refl _ _).drew
            have v1' : (convert 22 9 (.slice (some ⟨wr.heap.size, 0, none⟩) 1 1)).run Tryd.prog (((wr.alloc (.cells #[.int .u8 (x.toNat : Int)] 5)).alloc (.cells #[.int .u8 (y.toNat : Int)] 5)).drew) = .ok (.string (S [x])) (((wr.alloc (.cells #[.int .u8 (x.toNat : Int)] 5)).alloc (.cells #[.int .u8 (y.toNat : Int)] 5)).drew) := conv_one x wr _ (two_below _ _ _)
            have v2 : (convert 22 9 (.slice (some ⟨wr.heap.size + 1, 0, none⟩) 1 1)).run Tryd.prog (((wr.alloc (.cells #[.int .u8 (x.toNat : Int)] 5)).alloc (.cells #[.int .u8 (y.toNat : Int)] 5)).drew) = .ok (.string (S [y])) (((wr.alloc (.cells #[.int .u8 (x.toNat : Int)] 5)).alloc (.cells #[.int .u8 (y.toNat : Int)] 5)).drew) := by
              have := conv_one y (wr.alloc (.cells #[.int .u8 (x.toNat : Int)] 5)) _ (Below.refl _ _).drew
              have e : (wr.alloc (.cells #[.int .u8 (x.toNat : Int)] 5)).heap.size = wr.heap.size + 1 := by simp
              rw [e] at this
              exact this
            have u1 : (convert 22 9 (.slice (some ⟨wr.heap.size, 0, none⟩) 1 1)).run Tryd.prog ((wr.alloc (.cells #[.int .u8 (y.toNat : Int)] 5)).drew) = .ok (.string (S [y])) ((wr.alloc (.cells #[.int .u8 (y.toNat : Int)] 5)).drew) := conv_one y wr _ (Below.refl _ _).drew
            have u1' : (convert 22 9 (.slice (some ⟨wr.heap.size, 0, none⟩) 1 1)).run Tryd.prog (((wr.alloc (.cells #[.int .u8 (y.toNat : Int)] 5)).alloc (.cells #[.int .u8 (x.toNat : Int)] 5)).drew) = .ok (.string (S [y])) (((wr.alloc (.cells #[.int .u8 (y.toNat : Int)] 5)).alloc (.cells #[.int .u8 (x.toNat : Int)] 5)).drew) := conv_one y wr _ (two_below _ _ _)
            have u2 : (convert 22 9 (.slice (some ⟨wr.heap.size + 1, 0, none⟩) 1 1)).run Tryd.prog (((wr.alloc (.cells #[.int .u8 (y.toNat : Int)] 5)).alloc (.cells #[.int .u8 (x.toNat : Int)] 5)).drew) = .ok (.string (S [x])) (((wr.alloc (.cells #[.int .u8 (y.toNat : Int)] 5)).alloc (.cells #[.int .u8 (x.toNat : Int)] 5)).drew) := by
              have := conv_one x (wr.alloc (.cells #[.int .u8 (y.toNat : Int)] 5)) _ (Below.refl _ _).drew
              have e : (wr.alloc (.cells #[.int .u8 (y.toNat : Int)] 5)).heap.size = wr.heap.size + 1 := by simp
              rw [e] at this
              exact this
            clear hx hy hnm hvl hN hlt hgf hLw hFw
            go_upto_region 20 with fail
            go_cut [107] (fun s107 wx => s107 = .bool false ∧ Bx (Below wr.heap.size wr wx))
            case first =>
              go_region
              all_goals
                go_wp2_with fail
                go_meet
                exact ⟨rfl, ⟨by first | exact bx | exact by'⟩⟩
            case rest =>
              obtain ⟨rfl, HBX⟩ := hcut
              have HBW2 := Bx.mk (HBW.out.trans (HBX.out.mono HBW.out.size))
              have HBj2 := Bx.mk (HBj.out.trans (HBX.out.mono HBj.out.size))
              clear v1 v1' v2 u1 u1' u2 bx by' r0 z0 z1 y0 y1 cc1 ce hxi hyi hxl hyl hx0 hy0 ghl gfl HBX HBW HBj
              go_wp2_with fail
              have hLw := HLs.out.below HBj2.out HLs.out.lt
              have hFw := HF.out.below HBj2.out (fun g hg => hg)
              obtain ⟨gf2, off2, hA2, hgf, y0, y1⟩ := hFw.at HNV.out
              have z0 := hLw.cell 0; have z1 := hLw.cell 1
              simp at z0 z1
              cases hA2
              have b0 : Below wc.heap.size wc wc.drew := (Below.refl _ _).drew
              have HVa := Bx.mk (Values_any (l := [65]) (w := wc.drew) (HF.out.below HBj2.out.drew (fun g hg => hg)) (fun g hg => Nat.lt_of_lt_of_le hg HBj2.out.size) (by omega) N)
              rw [HV.out] at HVa
              have hnn := (str_eq [y]).2
              have HCx : Bx (∀ W', Below wc.heap.size wc W' → W'.cell? ⟨gh, 0, none⟩ = some (.string (S [65])) ∧ W'.cell? ⟨gh, 1, none⟩ = some (.slice (some ⟨gf, off, none⟩) i c) ∧ W'.cell? ⟨gf, off + j * 2, none⟩ = some (.string (S N)) ∧ W'.cell? ⟨gf, off + j * 2 + 1, none⟩ = some (.string (S [y]))) := ⟨fun W' hb => ⟨cell_kept z0 hb, cell_kept z1 hb, cell_kept y0 hb, cell_kept y1 hb⟩⟩
              clear hLw hFw hgf z0 z1 y0 y1 HV HNV
              go_upto_region 22 with fail
              go_region_held3 (fun W' => W'.cell? ⟨gh, 0, none⟩ = some (.string (S [65])) ∧ W'.cell? ⟨gh, 1, none⟩ = some (.slice (some ⟨gf, off, none⟩) i c) ∧ W'.cell? ⟨gf, off + j * 2, none⟩ = some (.string (S N)) ∧ W'.cell? ⟨gf, off + j * 2 + 1, none⟩ = some (.string (S [y])))
                (exact HCx.out _ b0)
                (first
                  | (go_at_call 16; refine HVa.out.mono ?_; rintro e w5 ⟨A5, c5, rfl, hr5, hb5⟩; replace b0 := b0.trans (hb5.mono b0.size)))
              obtain ⟨gs, cap, cur, hv5, _, hh5, _, _, _, ht5⟩ : ∃ g cap cur, Value.slice A5 [[y]].length c5 = .slice (some ⟨g, 0, none⟩) 1 cap ∧ wc.drew.heap.size ≤ g ∧ w5.heap[g]? = some (.cells cur 9 (0, 0)) ∧ 1 ≤ cap ∧ cap ≤ maxLen ∧ cur.size = cap * 1 ∧ cur.toList.take (1 * 1) = strv [[y]] := by
                rcases hr5.2 with ⟨_, h⟩ | h
                · cases h
                · exact h
              simp only [List.length_singleton, Value.slice.injEq, true_and] at hv5
              obtain ⟨rfl, rfl⟩ := hv5
              have s0 : w5.cell? ⟨gs, 0, none⟩ = some (.string (S [y])) := by
                have h1 : (cur.toList.take (1 * 1))[0]? = some (.string (S [y])) := by rw [ht5]; rfl
                simp only [World.cell?, hh5]
                rw [List.getElem?_take] at h1
                simpa using h1
              obtain ⟨_, z1, _, y1⟩ := HCx.out _ b0
              have HBW3 := Bx.mk (HBW2.out.trans (b0.mono HBW2.out.size))
              have HBj3 := Bx.mk (HBj2.out.trans (b0.mono HBj2.out.size))
              clear HCx b0 hr5 hb5 hh5 ht5 HVa HBW2 HBj2
              go_wp2_with fail
              go_quiet (fail)
              go_wp2_with fail
              go_roundw
              case rel => exact ⟨j + 1, by omega, by go_num, ⟨below_drewN HBj3.out _⟩⟩
              case measure => simp [intOf]; omega
          · obtain rfl : j = i := by omega
            have q1 : ¬ (j : Int) < (j : Int) := by omega
            go_wp2_with fail
            exact bodyPost_ret (v := .bool true) (by simp [results, Tryd.results8, go_sem]) rfl ⟨rfl, HB3.out.trans (HBj.out.mono HB3.out.size)⟩
      · obtain ⟨t, ht⟩ : ∃ t, t = ft gap 16 := ⟨_, rfl⟩
        have hmx := ft_len gap 16
        obtain ⟨u, hu⟩ : ∃ u, u = t ++ [120] := ⟨_, rfl⟩
        obtain ⟨v, hv⟩ : ∃ v, v = t ++ [32] := ⟨_, rfl⟩
        rw [← ht] at hmx
        have c1 : ∀ W, (Op.stringOp .add (S t) ⟨#[120]⟩).run Tryd.prog W = .ok (.string (S u)) W := fun W => by rw [hu]; exact cat t [120] (by omega) (by simp) W
        have c2 : ∀ W, (Op.stringOp .add (S t) ⟨#[32]⟩).run Tryd.prog W = .ok (.string (S v)) W := fun W => by rw [hv]; exact cat t [32] (by omega) (by simp) W
        have T1 : Bx (∀ W, Calls Tryd.prog 24 #[.int .i64 5, .string (S t)] W (True_ W)) := ⟨fun W => told_any t 5 (by rw [ht]; exact ft_more5 gap) (by omega) W⟩
        have T2 : Bx (∀ W, Calls Tryd.prog 24 #[.int .i64 3, .string (S u)] W (True_ W)) := ⟨fun W => told_any u 3 (by rw [hu, ht]; exact ft_more3 gap) (by rw [hu]; simp; omega) W⟩
        have T3 : Bx (∀ W, Calls Tryd.prog 24 #[.int .i64 6, .string (S v)] W (True_ W)) := ⟨fun W => told_any v 6 (by rw [hv, ht]; exact ft_more6 gap) (by rw [hv]; simp; omega) W⟩
        have q1 : (16 : Int) < (n : Int) := by omega
        rw [← ht]
        clear ht hu hv hmx hlt hfl hi hi2 hi16
        go_wp2_with fail
        refine (T1.out _).mono ?_
        rintro e w2 ⟨rfl, h2⟩
        have HB2 := Bx.mk (HB.out.trans (h2.mono HB.out.size))
        clear h2
        go_wp2_with fail
        refine (T2.out _).mono ?_
        rintro e w3 ⟨rfl, h3⟩
        have HB3 := Bx.mk (HB2.out.trans (h3.mono HB2.out.size))
        clear h3
        go_wp2_with fail
        refine (T3.out _).mono ?_
        rintro e w4 ⟨rfl, h4⟩
        have HB4 := Bx.mk (HB3.out.trans (h4.mono HB3.out.size))
        clear h4
        go_wp2_with fail
        exact bodyPost_ret (v := .bool true) (by simp [results, Tryd.results8, go_sem]) rfl ⟨rfl, HB4.out⟩
end Go.Proofs.YtkclhfoeimbikaaDoor.hd
