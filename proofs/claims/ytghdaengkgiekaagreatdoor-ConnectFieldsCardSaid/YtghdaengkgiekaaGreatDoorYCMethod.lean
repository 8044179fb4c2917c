/-
  Given for the seat's laws: ConnectMethod at any ask and any method. No condition but those of the theorems.
-/
import Derived.Test.YtghdaengkgiekaaGreatDoorYCBack
namespace Go.Proofs.YtghdaengkgiekaaGreatDoor.cn
open Go.RowKit mem hd
set_option linter.unusedVariables false

theorem isN_ok {s : Str} (h : isN s = true) : okN s := by
  unfold isN at h
  unfold okN
  cases s <;> simp at h ⊢
  exact h
def lineM (m : Str) (a : A) : Str := m ++ 32 :: (hostp.print (tgtOf a) ++ 32 :: HTTP11)
theorem line_eq (a : A) : lineOf a = lineM CONNECT a := by
  unfold lineOf lineM cn_ CONNECT
  simp
theorem sgn_vis (c : UInt8) (h : sgn c = true) : vis c = true ∧ c ≠ 32 := by
  have := byte_all (fun c => !sgn c || (vis c && c != 32)) (by decide +kernel) c
  simp only [h, Bool.not_true, Bool.false_or, Bool.and_eq_true, bne_iff_ne] at this
  exact this
theorem pr_meth (m : Str) (a : A) (fs : Flds) : pr (lineM m a) fs = m ++ (pr (lineOf a) fs).drop 7 := by
  rw [line_eq]
  unfold pr lineM CONNECT
  simp
theorem pr_ge (a : A) (fs : Flds) : 7 ≤ (pr (lineOf a) fs).length := by
  rw [line_eq]
  unfold pr lineM CONNECT
  simp
theorem ctake_meth {a : A} (hm : mayA a = true) (hp : prints (lineOf a) (fldsOf a)) {m : Str} (hn : isN m = true) (hlen : (pr (lineOf a) (fldsOf a)).length - 7 + m.length ≤ 512) :
    ∃ x : A, ∃ n : Nat, ctake (m ++ (pr (lineOf a) (fldsOf a)).drop 7) = (x, n, if m = CONNECT then 0 else 140) := by
  have h := (prints_iff _ _).1 hp
  have hnm := isN_ok hn
  have hm1 := hm
  unfold mayA at hm1
  simp only [Bool.and_eq_true] at hm1
  have ht := hm1.1.1.1
  obtain ⟨h1, h2⟩ := at_free ht
  have hok : Ok (lineM m a) (fldsOf a) := by
    refine ⟨⟨by unfold lineM; simp, fun c hc => ?_⟩, h.1.most, h.1.flds⟩
    unfold lineM at hc
    rcases List.mem_append.1 hc with hc | hc
    · exact (sgn_vis c (hnm.2 c hc)).1
    · refine h.1.line.2 c ?_
      rw [line_eq]
      unfold lineM
      exact List.mem_append.2 (.inr hc)
  have hle : (pr (lineM m a) (fldsOf a)).length ≤ 512 := by
    rw [pr_meth, List.length_append, List.length_drop]
    omega
  have htk := take_pr hok hle []
  rw [List.append_nil, pr_meth] at htk
  have hcut : hostp.cut 32 (lineM m a) = [m, hostp.print (tgtOf a), HTTP11] := by
    unfold lineM
    rw [hostp.cut_append _ (fun hc => (sgn_vis 32 (hnm.2 32 hc)).2 rfl), hostp.cut_append _ h1, hostp.cut_free (by decide)]
  by_cases hc : m = CONNECT
  · subst hc
    rw [if_pos rfl]
    have e : ctake (CONNECT ++ (pr (lineOf a) (fldsOf a)).drop 7) = ctake (pr (lineOf a) (fldsOf a) ++ []) := by
      rw [← pr_meth, ← line_eq, List.append_nil]
    rw [e, ctake_print hm hp]
    exact ⟨_, _, rfl⟩
  · rw [if_neg hc]
    have htg : tgt (lineM m a) = .error 140 := by
      unfold tgt
      rw [hcut]
      dsimp only
      rw [if_neg (by
        rintro (h | h | h)
        · rw [hn] at h; cases h
        · exact h2 h
        · exact h rfl), if_pos hc]
    refine ⟨zero, 0, ?_⟩
    rw [show ctake (m ++ (pr (lineOf a) (fldsOf a)).drop 7) = _ from by unfold ctake; rw [htk]]
    dsimp only
    rw [if_neg (by simp)]
    have : asked (lineM m a) (lowF (fldsOf a)) = (zero, 140) := by
      unfold asked
      rw [htg]
    rw [this]
    rfl
set_option maxRecDepth 100000 in
set_option maxHeartbeats 8000000 in
theorem method_main {w : World} (he : hw.Env w) (a : A) (mth : Str) : ∀ x, x = av a → Calls Tryz.prog 8 #[x, .string (S mth)] w (True_ w) := by
  have HAW := Bx.mk (fun (w : World) (he : hw.Env w) => awake_any he)
  have HGr := Bx.mk (fun w => great_any a w)
  obtain ⟨r, hr⟩ : ∃ r, greatA a = r := ⟨_, rfl⟩
  rw [hr] at HGr
  have HCp : Bx (r = false → ∀ w, hw.Env w → Calls Tryz.prog 11 #[av a] w (PrTo a w)) := ⟨fun h w he => cprint_any he a (small_not (by rw [hr]; exact h))⟩
  have HOut := Bx.mk (print_out a)
  have HCt := Bx.mk (fun (hm : mayA a = true) (hp : prints (lineOf a) (fldsOf a)) (hn : isN mth = true) => ctake_meth (m := mth) hm hp hn)
  have HBg := Bx.mk (pr_ge a (fldsOf a))
  have hsz : (S mth).size = mth.length := S_size mth
  intro x hx
  unfold av at hx HGr HCp
  generalize hk : (a.k : Int) = k at *
  generalize hus : S a.us = us at *
  generalize hps : S a.ps = ps at *
  generalize htk : S a.tk = tk at *
  generalize ht : S a.t = t at *
  generalize hp0 : a.p = p at *
  generalize hsg : a.sg = sg at *
  generalize hhp : a.hp = hp' at *
  subst hx
  have HX := Bx.mk (Lies.new w 27 #[.int .u8 k, .string t, .int .i64 p, .bool sg, .string us, .string ps, .bool hp', .string tk])
  have hb0 : Below w.heap.size w (w.alloc (.cells #[.int .u8 k, .string t, .int .i64 p, .bool sg, .string us, .string ps, .bool hp', .string tk] 27)) := (Below.refl _ _).alloc (Nat.le_refl _) _
  have HE := Bx.mk he
  have HAW1 := Bx.mk (HAW.out _ (he.below hb0))
  have HB := Bx.mk hb0
  clear he hb0 hr hk hus hps htk ht hp0 hsg hhp HAW
  go_enter Tryz.func8, Tryz.ntmps8
  go_upto_region 1 with fail
  generalize w.alloc (.cells #[.int .u8 k, .string t, .int .i64 p, .bool sg, .string us, .string ps, .bool hp', .string tk] 27) = W1 at *
  go_wp2_with fail
  refine HAW1.out.mono ?_
  rintro e w2 ⟨rfl, hb2⟩
  have HX2 := Bx.mk (HX.out.below hb2 HX.out.lt)
  have HB2 := Bx.mk (HB.out.trans (hb2.mono HB.out.size))
  obtain ⟨r0, r1, r2, r3, r4, r5, r6, r7⟩ := eight HX2.out
  clear hb2 HX HB HAW1
  go_wp2_with fail
  refine (HGr.out _).mono ?_
  rintro e w3 ⟨rfl, hb3⟩
  have HX3 := Bx.mk (HX2.out.below hb3 HX2.out.lt)
  have HB3 := Bx.mk (HB2.out.trans (hb3.mono HB2.out.size))
  clear hb3 HX2 HB2 HGr r0 r1 r2 r3 r4 r5 r6 r7
  obtain ⟨r0, r1, r2, r3, r4, r5, r6, r7⟩ := eight HX3.out
  cases r with
  | true =>
    go_wp2_with fail
    exact bodyPost_ret (v := .bool true) (by simp [results, Tryz.results8, go_sem]) rfl ⟨rfl, HB3.out⟩
  | false =>
  by_cases hm1 : 100 < mth.length
  · have q : (100 : Int) < (mth.length : Int) := by omega
    clear hm1
    go_wp2_with fail
    exact bodyPost_ret (v := .bool true) (by simp [results, Tryz.results8, go_sem]) rfl ⟨rfl, HB3.out⟩
  have q : ¬ (100 : Int) < (mth.length : Int) := by omega
  have HNm := Bx.mk (Name_any mth (by omega))
  cases hn : isN mth with
  | false =>
    rw [hn] at HNm
    clear hm1
    go_wp2_with fail
    refine (HNm.out _).mono ?_
    rintro e w4 ⟨rfl, hw4⟩
    replace hw4 := hw4.symm
    subst hw4
    go_wp2_with fail
    exact bodyPost_ret (v := .bool true) (by simp [results, Tryz.results8, go_sem]) rfl ⟨rfl, HB3.out⟩
  | true =>
  rw [hn] at HNm
  have HP3 := Bx.mk (HCp.out rfl w3 (HE.out.below HB3.out))
  have hml : mth.length ≤ 100 := by omega
  have HNt := Bx.mk hn
  clear hm1 hn
  go_wp2_with fail
  refine (HNm.out _).mono ?_
  rintro e w4 ⟨rfl, hw4⟩
  replace hw4 := hw4.symm
  subst hw4
  go_wp2_with fail
  refine HP3.out.mono ?_
  intro e w4 hpr
  rcases HOut.out with h | ⟨hma, hpp, h512, h⟩
  · obtain ⟨A4, c4, rfl, hs4, hb4⟩ := h _ _ _ hpr
    have HB4 := Bx.mk (HB3.out.trans (hb4.mono HB3.out.size))
    clear hpr h hs4 hb4 HP3 HOut r0 r1 r2 r3 r4 r5 r6 r7
    go_wp2_with fail
    exact bodyPost_ret (v := .bool true) (by simp [results, Tryz.results8, go_sem]) rfl ⟨rfl, HB4.out⟩
  · obtain ⟨A4, c4, rfl, hs4, hb4⟩ := h _ _ _ hpr
    have hct := HCt.out hma hpp HNt.out
    have hge := HBg.out
    obtain ⟨bs, hbs⟩ : ∃ bs, pr (lineOf a) (fldsOf a) = bs := ⟨_, rfl⟩
    rw [hbs] at hct hs4 h512 hge ⊢
    obtain ⟨n, hn⟩ : ∃ n, bs.length = n := ⟨_, rfl⟩
    rw [hn] at hct hs4 h512 hge ⊢
    have HB4 := Bx.mk (HB3.out.trans (hb4.mono HB3.out.size))
    obtain ⟨K, hK⟩ : ∃ K, n - 7 = K := ⟨_, rfl⟩
    obtain ⟨ml, hml2⟩ : ∃ ml, mth.length = ml := ⟨_, rfl⟩
    rw [hK, hml2] at hct
    rw [hml2] at q hml hsz
    have q7 : ¬ (n : Int) < 7 := by omega
    have hw1 : IntKind.i64.wrap ((n : Int) - 7) = (K : Int) := by rw [IntWalk.i64_in _ (by omega)]; omega
    have hw2 : IntKind.i64.wrap ((K : Int) + (ml : Int)) = ((K + ml : Nat) : Int) := by rw [IntWalk.i64_in _ (by omega)]; omega
    by_cases hbig : 512 < K + ml
    · have qb : (512 : Int) < ((K + ml : Nat) : Int) := by omega
      generalize ((K + ml : Nat) : Int) = z at *
      clear hpr h hs4 hb4 HP3 HOut r0 r1 r2 r3 r4 r5 r6 r7 hct hbig hK hn hbs hge h512 hma hpp HCt HCp
      go_wp2_with fail
      exact bodyPost_ret (v := .bool true) (by simp [results, Tryz.results8, go_sem]) rfl ⟨rfl, HB4.out⟩
    have qb : ¬ (512 : Int) < ((K + ml : Nat) : Int) := by omega
    obtain ⟨x, nx, hct2⟩ := hct (by omega)
    have hsl : ∀ V, (Instr.slice 29 (.slice A4 n c4) (some (.int .i64 7)) none none).run Tryz.prog V = .ok (.slice (cutA A4 c4 7) K (c4 - 7)) V := fun V => by
      have := cut_l V A4 n c4 7 hge
      rwa [hK] at this
    have hcv : (convert 29 9 (.slice (cutA A4 c4 7) K (c4 - 7))).run Tryz.prog w4 = .ok (.string (S (bs.drop 7))) w4 := by
      have h1 := hs4.cut 7 K (by omega)
      rw [ints_drop, ints_take, List.take_of_length_le (by rw [List.length_drop]; omega)] at h1
      exact spell_str h1
    obtain ⟨s2, hs2⟩ : ∃ s2, s2 = S (mth ++ bs.drop 7) := ⟨_, rfl⟩
    have c1 : ∀ W, (Op.stringOp .add (S mth) (S (bs.drop 7))).run Tryz.prog W = .ok (.string s2) W := fun W => by rw [hs2]; exact cat _ _ (by omega) (by rw [List.length_drop]; omega) W
    obtain ⟨k2, t2, p2, sg2, us2, ps2, hp2, tk2, hav⟩ := av_form x
    obtain ⟨W5, c5, V5, b5, t5⟩ := ex_take hct2 (by rw [List.length_append, List.length_drop]; omega) (HE.out.below HB4.out)
    rw [hav] at t5
    rw [← hs2] at V5
    have T5 := Bx.mk t5
    have HB5 := Bx.mk (HB4.out.trans (b5.mono HB4.out.size))
    have hcc : (((S mth).toList == ([67, 79, 78, 78, 69, 67, 84] : List UInt8)) = true ∧ (if mth = CONNECT then 0 else 140) = 0) ∨ (((S mth).toList == ([67, 79, 78, 78, 69, 67, 84] : List UInt8)) = false ∧ (if mth = CONNECT then 0 else 140) = 140) := by
      rw [S_toList]
      by_cases hc : mth = CONNECT
      · exact .inl ⟨by rw [hc]; rfl, by rw [if_pos hc]⟩
      · exact .inr ⟨beq_eq_false_iff_ne.2 hc, by rw [if_neg hc]⟩
    generalize (if mth = CONNECT then 0 else 140) = ff at *
    generalize (mth ++ bs.drop 7).length = ll at *
    generalize S (bs.drop 7) = rst at *
    generalize hsm : S mth = sm at *
    generalize ((K + ml : Nat) : Int) = z at *
    clear hpr h hs4 hb4 HP3 HOut r0 r1 r2 r3 r4 r5 r6 r7 hct hct2 hbig hn hbs h512 hma hpp HCt HCp t5 b5 hav hs2 HNt hsm hge
    go_wp2_with fail
    refine T5.out.mono ?_
    rintro e w6 ⟨rfl, hb6⟩
    have HB6 := Bx.mk (HB5.out.trans ((hb6.alloc hb6.size (.cells #[.int .u8 k2, .string t2, .int .i64 p2, .bool sg2, .string us2, .string ps2, .bool hp2, .string tk2] 27)).mono HB5.out.size))
    clear hb6 V5 hcv hsl c1
    rcases hcc with ⟨g1, rfl⟩ | ⟨g1, rfl⟩
    · go_wp2_with fail
      exact bodyPost_ret (v := .bool true) (by simp [results, Tryz.results8, go_sem]) rfl ⟨rfl, HB6.out⟩
    · go_wp2_with fail
      exact bodyPost_ret (v := .bool true) (by simp [results, Tryz.results8, go_sem]) rfl ⟨rfl, HB6.out⟩
theorem method_walk {w : World} (he : hw.Env w) (a : A) (s : ByteArray) : Calls Tryz.prog 8 #[av a, .string s] w (True_ w) := by
  obtain ⟨m, rfl⟩ : ∃ m, s = S m := ⟨_, (S_data s).symm⟩
  exact method_main he a m _ rfl
end Go.Proofs.YtghdaengkgiekaaGreatDoor.cn
