/-
  Given for the seat's laws: ConnectFields at any ask, name and value. No condition but those of the theorems.
-/
import Derived.Test.YtghdaengkgiekaaGreatDoorYCFieldsP
import Derived.Deep.RegionHeld3
namespace Go.Proofs.YtghdaengkgiekaaGreatDoor.cn
open Go.RowKit mem hd
set_option linter.unusedVariables false

theorem slice_upto (V : World) (A : Option Addr) (n c k : Nat) (hk : k ≤ n) (hc : n ≤ c) : (Instr.slice 29 (.slice A n c) none (some (.int .i64 (k : Int))) none).run Tryz.prog V = .ok (.slice A k c) V := by
  obtain ⟨i0, hi, hz0, hz1, hz2⟩ := info_parts u8Info
  rw [run_slice_h V 29 _ n c (by kernel_rfl) .i64 _ (by omega) (by omega)]
  have he : Tryz.prog.elem 29 = 5 := by kernel_rfl
  rw [he]
  have hs : (sizeOf 5).run Tryz.prog V = .ok 1 V := by simp [sizeOf, typeInfo, hi, hz1]
  rw [hs]
  simp only [Result.andThen, sliced]
  cases A <;> simp [Addr.add]
set_option maxRecDepth 100000 in
set_option maxHeartbeats 8000000 in
theorem fields_main {w : World} (he : hw.Env w) (a : A) (nm vl : Str) : ∀ x, x = av a → Calls Tryz.prog 7 #[x, .string (S nm), .string (S vl)] w (True_ w) := by
  have HAW := Bx.mk (fun (w : World) (he : hw.Env w) => awake_any he)
  have HGr := Bx.mk (fun w => great_any a w)
  obtain ⟨r, hr⟩ : ∃ r, greatA a = r := ⟨_, rfl⟩
  rw [hr] at HGr
  have HCp : Bx (r = false → ∀ w, hw.Env w → Calls Tryz.prog 11 #[av a] w (PrTo a w)) := ⟨fun h w he => cprint_any he a (small_not (by rw [hr]; exact h))⟩
  have HEq := fun W => av_self a (rfl : av a = av a) W
  have HOut := Bx.mk (print_out a)
  have HW := Bx.mk (fun (hm : mayA a = true) (hp : prints (lineOf a) (fldsOf a)) => ways (p := (nm, vl)) hm hp)
  have HBg := Bx.mk (pr_ge a (fldsOf a))
  have HP2 := Bx.mk (pr_two (lineOf a) (fldsOf a) (nm, vl))
  have hsz : (S nm).size = nm.length := S_size nm
  have hsz2 : (S vl).size = vl.length := S_size vl
  have HV : Bx (∀ n : Nat, CTakeTo (a, n, 0) = fun w e w' => Gives (.tuple #[av a, .int .i64 (n : Int), .int .i64 0]) w e w') := ⟨fun n => rfl⟩
  intro x hx
  unfold av at hx HGr HCp HEq HV
  generalize hk : (a.k : Int) = k at *
  generalize hus : S a.us = us at *
  generalize hps : S a.ps = ps at *
  generalize htk : S a.tk = tk at *
  generalize ht : S a.t = t at *
  generalize hp0 : a.p = p at *
  generalize hsg : a.sg = sg at *
  generalize hhp : a.hp = hp' at *
  have HSg := Bx.mk hsg
  have HHp := Bx.mk hhp
  subst hx
  have HX := Bx.mk (Lies.new w 27 #[.int .u8 k, .string t, .int .i64 p, .bool sg, .string us, .string ps, .bool hp', .string tk])
  have hb0 : Below w.heap.size w (w.alloc (.cells #[.int .u8 k, .string t, .int .i64 p, .bool sg, .string us, .string ps, .bool hp', .string tk] 27)) := (Below.refl _ _).alloc (Nat.le_refl _) _
  have HE := Bx.mk he
  have HAW1 := Bx.mk (HAW.out _ (he.below hb0))
  have HB := Bx.mk hb0
  clear he hb0 hr hk hus hps htk ht hp0 hsg hhp HAW
  go_enter Tryz.func7, Tryz.ntmps7
  go_upto_region 1 with fail
  generalize w.alloc (.cells #[.int .u8 k, .string t, .int .i64 p, .bool sg, .string us, .string ps, .bool hp', .string tk] 27) = W1 at *
  go_wp2_with fail
  refine HAW1.out.mono ?_
  rintro e w2 ⟨rfl, hb2⟩
  have HX2 := Bx.mk (HX.out.below hb2 HX.out.lt)
  have HB2 := Bx.mk (HB.out.trans (hb2.mono HB.out.size))
  obtain ⟨r0, r1, r2, r3, r4, r5, r6, r7⟩ := eight HX2.out
  clear hb2 HX HB HAW1
  go_wp2_with fail
  refine (HGr.out _).mono ?_
  rintro e w3 ⟨rfl, hb3⟩
  have HX3 := Bx.mk (HX2.out.below hb3 HX2.out.lt)
  have HB3 := Bx.mk (HB2.out.trans (hb3.mono HB2.out.size))
  clear hb3 HX2 HB2 HGr r0 r1 r2 r3 r4 r5 r6 r7
  obtain ⟨r0, r1, r2, r3, r4, r5, r6, r7⟩ := eight HX3.out
  cases r with
  | true =>
    go_wp2_with fail
    exact bodyPost_ret (v := .bool true) (by simp [results, Tryz.results7, go_sem]) rfl ⟨rfl, HB3.out⟩
  | false =>
  by_cases hm1 : 100 < nm.length
  · have q : (100 : Int) < (nm.length : Int) := by omega
    clear hm1
    go_wp2_with fail
    exact bodyPost_ret (v := .bool true) (by simp [results, Tryz.results7, go_sem]) rfl ⟨rfl, HB3.out⟩
  have q : ¬ (100 : Int) < (nm.length : Int) := by omega
  by_cases hm2 : 100 < vl.length
  · have q2 : (100 : Int) < (vl.length : Int) := by omega
    clear hm1 hm2
    go_wp2_with fail
    exact bodyPost_ret (v := .bool true) (by simp [results, Tryz.results7, go_sem]) rfl ⟨rfl, HB3.out⟩
  have q2 : ¬ (100 : Int) < (vl.length : Int) := by omega
  have HP3 := Bx.mk (HCp.out rfl w3 (HE.out.below HB3.out))
  have hnl : nm.length ≤ 100 := by omega
  have hvl : vl.length ≤ 100 := by omega
  clear hm1 hm2
  go_wp2_with fail
  refine HP3.out.mono ?_
  intro e w4 hpr
  have hb4 : Below w3.heap.size w3 w4 ∧ ∃ A4 n4 c4 q4, e = .returned (.tuple #[.slice A4 n4 c4, .int .i64 q4]) := by
    rcases HOut.out with h | ⟨_, _, _, h⟩
    · obtain ⟨A4, c4, rfl, _, hb4⟩ := h _ _ _ hpr
      exact ⟨hb4, _, _, _, _, rfl⟩
    · obtain ⟨A4, c4, rfl, _, hb4⟩ := h _ _ _ hpr
      exact ⟨hb4, _, _, _, _, rfl⟩
  obtain ⟨hb4, _⟩ := hb4
  have hal4 : Below w4.heap.size w4 (w4.alloc (.cells #[.string (S nm), .string (S vl)] 54)) := (Below.refl _ _).alloc (Nat.le_refl _) _
  have HP5 : Bx (Calls Tryz.prog 21 #[.agg #[.string ⟨#[120]⟩, .slice (some ⟨w4.heap.size, 0, none⟩) 1 1]] (w4.alloc (.cells #[.string (S nm), .string (S vl)] 54)) (PrintTo [120] [(nm, vl)] (w4.alloc (.cells #[.string (S nm), .string (S vl)] 54)))) := ⟨by
    have ho : RowF (w4.alloc (.cells #[.string (S nm), .string (S vl)] 54)) w4.heap.size (.slice (some ⟨w4.heap.size, 0, none⟩) 1 1) [(nm, vl)] := World.ownsRow_lit (base := w4.heap.size) (e := 54) (size := 2) w4 #[.string (S nm), .string (S vl)] 1 (Nat.le_refl _) (by unfold maxLen; omega) rfl
    exact print_any (l := [120]) (rowF_at ho rfl) (fun g hg => hg) ⟨by simp, by simp, fun x hx => by simp at hx; subst hx; exact ⟨by show nm.length ≤ 2000; omega, by show vl.length ≤ 2000; omega⟩⟩⟩
  rcases HOut.out with h | ⟨hma, hpp, h512, h⟩
  · obtain ⟨A4, c4, rfl, hs4, _⟩ := h _ _ _ hpr
    have HB4 := Bx.mk (HB3.out.trans ((hb4.trans (hal4.mono hb4.size)).mono HB3.out.size))
    clear hpr h hs4 hb4 hal4 HP3 HOut r0 r1 r2 r3 r4 r5 r6 r7
    go_wp2_with fail
    refine HP5.out.mono ?_
    intro e w5 hp5
    have hb5 : Below (w4.alloc (.cells #[.string (S nm), .string (S vl)] 54)).heap.size (w4.alloc (.cells #[.string (S nm), .string (S vl)] 54)) w5 := by
      by_cases hx : prints [120] [(nm, vl)]
      · obtain ⟨_, _, _, _, hb⟩ := hp5.1 hx
        exact hb
      · exact (hp5.2 hx).2
    obtain ⟨A9, n9, c9, q9, rfl⟩ := pr_form hp5
    have HB5 := Bx.mk (HB4.out.trans (hb5.mono HB4.out.size))
    clear hp5 hb5
    go_wp2_with fail
    exact bodyPost_ret (v := .bool true) (by simp [results, Tryz.results7, go_sem]) rfl ⟨rfl, HB5.out⟩
  · obtain ⟨A4, c4, rfl, hs4, _⟩ := h _ _ _ hpr
    have hwx := HW.out hma hpp
    have hge := HBg.out
    have hp2 := HP2.out
    obtain ⟨bs, hbs⟩ : ∃ bs, pr (lineOf a) (fldsOf a) = bs := ⟨_, rfl⟩
    rw [hbs] at hwx hs4 h512 hge hp2 ⊢
    obtain ⟨n, hn⟩ : ∃ n, bs.length = n := ⟨_, rfl⟩
    rw [hn] at hwx hs4 h512 hge hp2 ⊢
    obtain ⟨ss, hss⟩ : ∃ ss, pr (lineOf a) (fldsOf a ++ [(nm, vl)]) = ss := ⟨_, rfl⟩
    rw [hss] at hwx hp2
    have HB4 := Bx.mk (HB3.out.trans ((hb4.trans (hal4.mono hb4.size)).mono HB3.out.size))
    have HS4 := Bx.mk (sp_next hs4 hal4)
    have HX4 := Bx.mk (HX3.out.below (hb4.trans (hal4.mono hb4.size)) HX3.out.lt)
    have q7 : ¬ (n : Int) < 2 := by omega
    clear hpr h hs4 hb4 hal4 HP3 HOut r0 r1 r2 r3 r4 r5 r6 r7 hbs hss hma hpp HW HBg HP2 HB3 HX3
    go_wp2_with fail
    refine HP5.out.mono ?_
    intro e w5 hp5
    by_cases hx : prints [120] [(nm, vl)]
    · obtain ⟨A5, c5, rfl, hr5, hb5⟩ := hp5.1 hx
      obtain ⟨ms, hms⟩ : ∃ ms, pr [120] [(nm, vl)] = ms := ⟨_, rfl⟩
      have h3 : 3 ≤ (pr [120] [(nm, vl)]).length := by unfold pr; simp
      have hm512 : (pr [120] [(nm, vl)]).length ≤ 512 := ((prints_iff _ _).1 hx).2
      have hwy := hwx hx
      rw [hms] at hr5 hwy hp2 h3 hm512 ⊢
      obtain ⟨m, hm⟩ : ∃ m, ms.length = m := ⟨_, rfl⟩
      rw [hm] at hr5 hwy h3 hm512 ⊢
      have hs5 : Spell w5 (fun g => g < w5.heap.size) A5 m c5 ms := hr5.spell hm
      have HB5 := Bx.mk (HB4.out.trans (hb5.mono HB4.out.size))
      have hs4 := sp_next HS4.out hb5
      have HX5 := Bx.mk (HX4.out.below hb5 HX4.out.lt)
      obtain ⟨K, hK⟩ : ∃ K, n - 2 = K := ⟨_, rfl⟩
      obtain ⟨J, hJ⟩ : ∃ J, m - 3 = J := ⟨_, rfl⟩
      rw [hK] at hp2
      have hw0 : IntKind.i64.wrap ((n : Int) + (m : Int)) = ((n + m : Nat) : Int) := by rw [IntWalk.i64_in _ (by omega)]; omega
      have hw1 : IntKind.i64.wrap (((n + m : Nat) : Int) - 5) = ((n + m - 5 : Nat) : Int) := by rw [IntWalk.i64_in _ (by omega)]; omega
      have hw2 : IntKind.i64.wrap ((n : Int) - 2) = (K : Int) := by rw [IntWalk.i64_in _ (by omega)]; omega
      obtain ⟨Z, hZ⟩ : ∃ Z, n + m - 5 = Z := ⟨_, rfl⟩
      rw [hZ] at hw1 hwy
      by_cases hbig : 512 < Z
      · have qb : (512 : Int) < (Z : Int) := by omega
        generalize ((n + m : Nat) : Int) = z at *
        clear hp5 hr5 hb5 hwy hs5 hs4 hbig hK hJ hZ hx hms hm h3 hm512 hge h512 hn hp2 hwx HCp
        go_wp2_with fail
        exact bodyPost_ret (v := .bool true) (by simp [results, Tryz.results7, go_sem]) rfl ⟨rfl, HB5.out⟩
      have qb : ¬ (512 : Int) < (Z : Int) := by omega
      have hwz := hwy (by omega)
      have hcap5 := hs5.cap
      have hcap4 := hs4.cap
      have hsl1 : ∀ V, (Instr.slice 29 (.slice A4 n c4) none (some (.int .i64 (K : Int))) none).run Tryz.prog V = .ok (.slice A4 K c4) V := fun V => slice_upto V A4 n c4 K (by omega) hcap4
      have hsl2 : ∀ V, (Instr.slice 29 (.slice A5 m c5) (some (.int .i64 3)) none none).run Tryz.prog V = .ok (.slice (cutA A5 c5 3) J (c5 - 3)) V := fun V => by
        have := cut_l V A5 m c5 3 h3
        rwa [hJ] at this
      have hcv : ∀ V, Below w5.heap.size w5 V → (convert 29 9 (.slice A4 K c4)).run Tryz.prog V = .ok (.string (S (bs.take K))) V ∧ (convert 29 9 (.slice (cutA A5 c5 3) J (c5 - 3))).run Tryz.prog V = .ok (.string (S (ms.drop 3))) V := fun V hb => by
        refine ⟨spell_str (take_spell (sp_next hs4 hb) (by omega)), ?_⟩
        have h1 := (sp_next hs5 hb).cut 3 J (by omega)
        rw [ints_drop, ints_take, List.take_of_length_le (by rw [List.length_drop]; omega)] at h1
        exact spell_str h1
      obtain ⟨s2, hs2⟩ : ∃ s2, s2 = S ss := ⟨_, rfl⟩
      have c1 : ∀ W, (Op.stringOp .add (S (bs.take K)) (S (ms.drop 3))).run Tryz.prog W = .ok (.string s2) W := fun W => by
        rw [hs2, ← hp2]
        exact cat _ _ (by rw [List.length_take]; omega) (by rw [List.length_drop]; omega) W
      have hssl : ss.length ≤ 3000 := by rw [← hp2, List.length_append, List.length_take, List.length_drop]; omega
      have HC := Bx.mk hcv
      have HTk : Bx (∀ x nx ex, ctake ss = (x, nx, ex) → ∀ V, hw.Env V → ∃ W1 c, (convert 9 29 (.string s2)).run Tryz.prog V = .ok (.slice (some ⟨V.heap.size, 0, none⟩) ss.length c) W1 ∧ Below V.heap.size V W1 ∧ Calls Tryz.prog 17 #[.slice (some ⟨V.heap.size, 0, none⟩) ss.length c] W1 (Gives (.tuple #[av x, .int .i64 (nx : Int), .int .i64 (ex : Int)]) W1)) := ⟨fun x nx ex h V he => by rw [hs2]; exact ex_take h hssl he⟩
      have hs2z : s2.size = ss.length := by rw [hs2, S_size]
      have HLw := Bx.mk (Lower_any nm (by omega))
      have b0 : Below w5.heap.size w5 w5.drew := (Below.refl _ _).drew
      generalize ss.length = sl at *
      generalize S (bs.take K) = x1 at *
      generalize S (ms.drop 3) = x2 at *
      generalize ((n + m : Nat) : Int) = z at *
      have hK0 : (0 : Int) ≤ (K : Int) := by omega
      have hKc : (K : Int) ≤ (c4 : Int) := by omega
      have HEQ := Bx.mk (fun W => av_self a (rfl : av a = av a) W)
      clear hp5 hr5 hb5 hwy hs5 hs4 hbig hK hJ hZ hx hms hm h3 hm512 hge h512 hn hp2 hwx HCp hcv hs2 hssl hcap4 hcap5 HB4 HS4 HX4 HP5 HEQ
      go_wp2_with fail
      go_upto_region 9 with fail
      have HEd : Bx (hw.Env w5.drew) := ⟨HE.out.below (HB5.out.trans (b0.mono HB5.out.size))⟩
      have HXd := Bx.mk (HX5.out.below b0 HX5.out.lt)
      have HBd := Bx.mk (HB5.out.trans (b0.mono HB5.out.size))
      clear HX5 HB5
      go_region_held3 (fun W' => (convert 29 9 (.slice A4 K c4)).run Tryz.prog W' = .ok (.string x1) W' ∧ (convert 29 9 (.slice (cutA A5 c5 3) J (c5 - 3))).run Tryz.prog W' = .ok (.string x2) W')
        (exact HC.out _ b0)
        (fail)
      generalize w5.drew = V at *
      clear b0 HC hsl1 hsl2 c1 hw0 hw1 hw2 hK0 hKc
      generalize low nm = lo at *
      unfold is lH lC lT lP lO at hwz
      rcases hwz with ⟨hct, hway⟩ | ⟨x, nx, hct, hway⟩ | ⟨hct, hway⟩
      · obtain ⟨k2, t2, p2, sg2, us2, ps2, hp2, tk2, hav⟩ := av_form zero
        obtain ⟨W5, c6, v5, b5, t5⟩ := HTk.out _ _ _ hct V HEd.out
        rw [hav] at t5
        have T5 := Bx.mk t5
        have HB5 := Bx.mk (HBd.out.trans (b5.mono HBd.out.size))
        have HX5 := Bx.mk (HXd.out.below b5 HXd.out.lt)
        clear t5 b5 hct HTk HEd HBd HXd
        go_wp2_with fail
        refine T5.out.mono ?_
        rintro e w6 ⟨rfl, hb6⟩
        have hb6a := hb6.alloc hb6.size (.cells #[.int .u8 k2, .string t2, .int .i64 p2, .bool sg2, .string us2, .string ps2, .bool hp2, .string tk2] 27)
        have HX6 := Bx.mk (HX5.out.below hb6a HX5.out.lt)
        have HY6 := Bx.mk (Lies.new w6 27 #[.int .u8 k2, .string t2, .int .i64 p2, .bool sg2, .string us2, .string ps2, .bool hp2, .string tk2])
        have HB6 := Bx.mk (HB5.out.trans (hb6a.mono HB5.out.size))
        clear hb6 hb6a HX5 HB5 T5 v5
        go_upto_region 11 with fail
        generalize w6.alloc (.cells #[.int .u8 k2, .string t2, .int .i64 p2, .bool sg2, .string us2, .string ps2, .bool hp2, .string tk2] 27) = W6 at *
        go_wp2_with fail
        refine (HLw.out _).mono ?_
        rintro e w7 ⟨rfl, hb7⟩
        have HX7 := Bx.mk (HX6.out.below hb7 HX6.out.lt)
        have HY7 := Bx.mk (HY6.out.below hb7 HY6.out.lt)
        have HB7 := Bx.mk (HB6.out.trans (hb7.mono HB6.out.size))
        clear hb7 HX6 HB6 HY6 HLw
        obtain ⟨r0, r1, r2, r3, r4, r5, r6, r7⟩ := eight HX7.out
        clear hav HY7
        rcases hway with g1 | ⟨g1, g2⟩ | ⟨g1, g2, g3⟩ | ⟨g1, g2, g3, g4, rfl⟩ | ⟨g1, g2, g3, g4, g5, rfl⟩
        · go_wp2_with fail
          exact bodyPost_ret (v := .bool true) (by simp [results, Tryz.results7, go_sem]) rfl ⟨rfl, HB7.out⟩
        · go_wp2_with fail
          exact bodyPost_ret (v := .bool true) (by simp [results, Tryz.results7, go_sem]) rfl ⟨rfl, HB7.out⟩
        · go_wp2_with fail
          exact bodyPost_ret (v := .bool true) (by simp [results, Tryz.results7, go_sem]) rfl ⟨rfl, HB7.out⟩
        · go_wp2_with fail
          exact bodyPost_ret (v := .bool true) (by simp [results, Tryz.results7, go_sem]) rfl ⟨rfl, HB7.out⟩
        · cases sg <;> (go_wp2_with fail; exact bodyPost_ret (v := .bool true) (by simp [results, Tryz.results7, go_sem]) rfl ⟨rfl, HB7.out⟩)
      · obtain ⟨k2, t2, p2, sg2, us2, ps2, hp2, tk2, hav⟩ := av_form x
        obtain ⟨W5, c6, v5, b5, t5⟩ := HTk.out _ _ _ hct V HEd.out
        rw [hav] at t5
        have T5 := Bx.mk t5
        have HB5 := Bx.mk (HBd.out.trans (b5.mono HBd.out.size))
        have HX5 := Bx.mk (HXd.out.below b5 HXd.out.lt)
        clear t5 b5 hct HTk HEd HBd HXd
        go_wp2_with fail
        refine T5.out.mono ?_
        rintro e w6 ⟨rfl, hb6⟩
        have hb6a := hb6.alloc hb6.size (.cells #[.int .u8 k2, .string t2, .int .i64 p2, .bool sg2, .string us2, .string ps2, .bool hp2, .string tk2] 27)
        have HX6 := Bx.mk (HX5.out.below hb6a HX5.out.lt)
        have HY6 := Bx.mk (Lies.new w6 27 #[.int .u8 k2, .string t2, .int .i64 p2, .bool sg2, .string us2, .string ps2, .bool hp2, .string tk2])
        have HB6 := Bx.mk (HB5.out.trans (hb6a.mono HB5.out.size))
        clear hb6 hb6a HX5 HB5 T5 v5
        go_upto_region 11 with fail
        generalize w6.alloc (.cells #[.int .u8 k2, .string t2, .int .i64 p2, .bool sg2, .string us2, .string ps2, .bool hp2, .string tk2] 27) = W6 at *
        go_wp2_with fail
        refine (HLw.out _).mono ?_
        rintro e w7 ⟨rfl, hb7⟩
        have HX7 := Bx.mk (HX6.out.below hb7 HX6.out.lt)
        have HY7 := Bx.mk (HY6.out.below hb7 HY6.out.lt)
        have HB7 := Bx.mk (HB6.out.trans (hb7.mono HB6.out.size))
        clear hb7 HX6 HB6 HY6 HLw
        obtain ⟨r0, r1, r2, r3, r4, r5, r6, r7⟩ := eight HX7.out
        clear hav HY7
        rcases hway with ⟨g1, g2, g3, g4, rfl, g5⟩ | ⟨g1, g2, g3, g4, g5, rfl⟩
        · cases hp' <;> (go_wp2_with fail; exact bodyPost_ret (v := .bool true) (by simp [results, Tryz.results7, go_sem]) rfl ⟨rfl, HB7.out⟩)
        · cases sg <;> (go_wp2_with fail; exact bodyPost_ret (v := .bool true) (by simp [results, Tryz.results7, go_sem]) rfl ⟨rfl, HB7.out⟩)
      · obtain ⟨g1, g2, g3, g4, g5⟩ := hway
        obtain ⟨W5, c6, v5, b5, t5⟩ := HTk.out _ _ _ hct V HEd.out
        replace t5 : Calls Tryz.prog 17 _ W5 (CTakeTo (a, sl, 0) W5) := t5
        rw [HV.out] at t5
        have T5 := Bx.mk t5
        have HB5 := Bx.mk (HBd.out.trans (b5.mono HBd.out.size))
        have HX5 := Bx.mk (HXd.out.below b5 HXd.out.lt)
        clear t5 b5 hct HTk HEd HBd HXd
        go_wp2_with fail
        refine T5.out.mono ?_
        rintro e w6 ⟨rfl, hb6⟩
        have hb6a := hb6.alloc hb6.size (.cells #[.int .u8 k, .string t, .int .i64 p, .bool sg, .string us, .string ps, .bool hp', .string tk] 27)
        have HX6 := Bx.mk (HX5.out.below hb6a HX5.out.lt)
        have HY6 := Bx.mk (Lies.new w6 27 #[.int .u8 k, .string t, .int .i64 p, .bool sg, .string us, .string ps, .bool hp', .string tk])
        have HB6 := Bx.mk (HB5.out.trans (hb6a.mono HB5.out.size))
        clear hb6 hb6a HX5 HB5 T5 v5
        go_upto_region 11 with fail
        generalize w6.alloc (.cells #[.int .u8 k, .string t, .int .i64 p, .bool sg, .string us, .string ps, .bool hp', .string tk] 27) = W6 at *
        go_wp2_with fail
        refine (HLw.out _).mono ?_
        rintro e w7 ⟨rfl, hb7⟩
        have HX7 := Bx.mk (HX6.out.below hb7 HX6.out.lt)
        have HY7 := Bx.mk (HY6.out.below hb7 HY6.out.lt)
        have HB7 := Bx.mk (HB6.out.trans (hb7.mono HB6.out.size))
        clear hb7 HX6 HB6 HY6 HLw
        obtain ⟨r0, r1, r2, r3, r4, r5, r6, r7⟩ := eight HX7.out
        obtain ⟨m0, m1, m2, m3, m4, m5, m6, m7⟩ := eight HY7.out
        have qq : ((sl : Int) == (sl : Int)) = true := by simp
        go_wp2_with fail
        exact bodyPost_ret (v := .bool true) (by simp [results, Tryz.results7, go_sem]) rfl ⟨rfl, HB7.out⟩
    · obtain ⟨rfl, hb5⟩ := hp5.2 hx
      have HB5 := Bx.mk (HB4.out.trans (hb5.mono HB4.out.size))
      clear hp5 hb5 hx hwx h512 hge hn hp2 HCp
      go_wp2_with fail
      exact bodyPost_ret (v := .bool true) (by simp [results, Tryz.results7, go_sem]) rfl ⟨rfl, HB5.out⟩
theorem fields_walk {w : World} (he : hw.Env w) (a : A) (s1 s2 : ByteArray) : Calls Tryz.prog 7 #[av a, .string s1, .string s2] w (True_ w) := by
  obtain ⟨nm, rfl⟩ : ∃ m, s1 = S m := ⟨_, (S_data s1).symm⟩
  obtain ⟨vl, rfl⟩ : ∃ m, s2 = S m := ⟨_, (S_data s2).symm⟩
  exact fields_main he a nm vl _ rfl
end Go.Proofs.YtghdaengkgiekaaGreatDoor.cn
