/-
  Given for the seat's laws: ConnectBack at any ask and any bytes behind. No condition but those of the theorems.
-/
import Derived.Test.YtghdaengkgiekaaGreatDoorYCMay
import Derived.Test.YtghdaengkgiekaaGreatDoorYCOnce
namespace Go.Proofs.YtghdaengkgiekaaGreatDoor.cn
open Go.RowKit mem hd
set_option linter.unusedVariables false

/-! ### what is printed is taken as it was -/
theorem dg_ne : ∀ d, d < 16 → hostp.dg d ≠ 32 := by decide
theorem text_free {h : hostp.H} : (32 : UInt8) ∉ hostp.text h := by
  intro hc
  unfold hostp.text at hc
  split at hc
  · next hm =>
    split at hc
    · next h3 =>
      rcases hostp.may_iff.1 hm with h | h | h
      · omega
      · omega
      · rcases hostp.name_mem h.2 hc with h | h
        · exact absurd h (by decide)
        · exact absurd h (by decide)
    · split at hc
      · unfold hostp.text4 at hc
        rcases hostp.join_mem hc with h | ⟨x, hx, h⟩
        · exact absurd h (by decide)
        · obtain ⟨y, _, rfl⟩ := List.mem_map.1 hx
          have := hostp.nm10_free _ _ h
          have h32 : (32 : UInt8).toNat = 32 := rfl
          omega
      · unfold hostp.text6 at hc
        rcases hostp.tx6_mem hc with h | ⟨d, hd, h⟩
        · exact absurd h (by decide)
        · exact dg_ne d hd h.symm
  · cases hc
theorem at_free {t : hostp.T} (h : hostp.mayT t = true) : (32 : UInt8) ∉ hostp.print t ∧ hostp.print t ≠ [] := by
  have hn : (32 : UInt8) ∉ hostp.nm 10 t.port.toNat := fun hc => by
    have := hostp.nm10_free _ _ hc
    have h32 : (32 : UInt8).toNat = 32 := rfl
    omega
  have ht := text_free (h := t.host)
  unfold hostp.print
  rw [if_pos h]
  split
  · refine ⟨fun hc => ?_, by simp⟩
    simp only [List.mem_cons, List.mem_append] at hc
    rcases hc with hc | hc | hc | hc | hc
    · exact absurd hc (by decide)
    · exact ht hc
    · exact absurd hc (by decide)
    · exact absurd hc (by decide)
    · exact hn hc
  · refine ⟨fun hc => ?_, by simp⟩
    simp only [List.mem_cons, List.mem_append] at hc
    rcases hc with hc | hc | hc
    · exact ht hc
    · exact absurd hc (by decide)
    · exact hn hc
theorem tgt_line {a : A} (h : hostp.mayT (tgtOf a) = true) : tgt (lineOf a) = .ok (tgtOf a) := by
  obtain ⟨h1, h2⟩ := at_free h
  have e : lineOf a = CONNECT ++ 32 :: (hostp.print (tgtOf a) ++ 32 :: HTTP11) := by
    unfold lineOf cn_ CONNECT
    simp
  have hc : hostp.cut 32 (lineOf a) = [CONNECT, hostp.print (tgtOf a), HTTP11] := by
    rw [e, hostp.cut_append _ (by decide), hostp.cut_append _ h1, hostp.cut_free (by decide)]
  unfold tgt
  rw [hc]
  dsimp only
  rw [if_neg (by
    rintro (h | h | h)
    · exact absurd h (by decide)
    · exact h2 h
    · exact h rfl), if_neg (by simp), hostp.parseT_print h]
theorem cut_put {c : UInt8} {x : Str} (r : Str) (h : c ∉ x) : Lib.cut (x ++ c :: r) [c] = (x, r, true) := by
  unfold Lib.cut
  rw [Lib.index_one, hw.ix_put r h, if_pos (by omega), Int.toNat_natCast]
  simp
theorem cred_sign {a : A} (h : (58 : UInt8) ∉ a.us) : cred (signOf a) = (a.us, a.ps, true) := by
  have e : signOf a = basic ++ 32 :: sx.enc (a.us ++ 58 :: a.ps) := by
    unfold signOf basic
    simp
  unfold cred
  rw [e, cut_put _ (by decide)]
  dsimp only
  rw [if_neg (by simp), decS_enc]
  dsimp only
  rw [cut_put _ h]
  rfl
theorem vs_cons (n' v : Str) (r : Flds) (n : Str) : vs (lowF ((n', v) :: r)) n = (if low n' = low n then [v] else []) ++ vs (lowF r) n := by
  unfold vs vals lowF
  by_cases h : low n' = low n <;> simp [h]
theorem vs_nil (n : Str) : vs (lowF []) n = [] := rfl
theorem asked_print {a : A} (hm : mayA a = true) : asked (lineOf a) (lowF (fldsOf a)) = (a, 0) := by
  unfold mayA at hm
  simp only [Bool.and_eq_true, Bool.or_eq_true, Bool.not_eq_true', decide_eq_false_iff_not, List.isEmpty_iff] at hm
  obtain ⟨⟨⟨h1, h2⟩, h3⟩, h4⟩ := hm
  rw [asked_ok (tgt_line h1)]
  have hd : low sHost ≠ low sSign ∧ low sHost ≠ low sHops ∧ low sHost ≠ low sSize ∧ low sHost ≠ low sCoded ∧ low sSign ≠ low sHost ∧ low sSign ≠ low sHops ∧ low sSign ≠ low sSize ∧ low sSign ≠ low sCoded ∧ low sHops ≠ low sHost ∧ low sHops ≠ low sSign ∧ low sHops ≠ low sSize ∧ low sHops ≠ low sCoded := by decide
  obtain ⟨d1, d2, d3, d4, d5, d6, d7, d8, d9, d10, d11, d12⟩ := hd
  obtain ⟨k, t, p, sg, us, ps, hp, tk⟩ := a
  have hcs := cred_sign h4
  unfold fldsOf
  dsimp only at h2 h3 hcs ⊢
  cases sg <;> cases hp
  · simp at h2 h3
    obtain ⟨rfl, rfl⟩ := h2
    subst h3
    simp [vs_cons, vs_nil, d1, d2, d3, d4, tgtOf, credOf, hopOf]
  · simp at h2
    obtain ⟨rfl, rfl⟩ := h2
    simp [vs_cons, vs_nil, d1, d2, d3, d4, d9, d10, d11, d12, tgtOf, credOf, hopOf]
  · simp at h3
    subst h3
    simp [vs_cons, vs_nil, d1, d2, d3, d4, d5, d6, d7, d8, tgtOf, credOf, hopOf, hcs]
  · simp [vs_cons, vs_nil, d1, d2, d3, d4, d5, d6, d7, d8, d9, d10, d11, d12, tgtOf, credOf, hopOf, hcs]
theorem ctake_print {a : A} (hm : mayA a = true) (hp : prints (lineOf a) (fldsOf a)) (m : Str) : ctake (pr (lineOf a) (fldsOf a) ++ m) = (a, (pr (lineOf a) (fldsOf a)).length, 0) := by
  have h := (prints_iff _ _).1 hp
  have ht := take_pr h.1 h.2 m
  rw [show ctake (pr (lineOf a) (fldsOf a) ++ m) = _ from by unfold ctake; rw [ht]]
  dsimp only
  rw [if_neg (by simp), asked_print hm]
  rfl

/-! ### what Print gives -/
def PkS (bs : Str) (q : Nat) (w : World) (e : Ending) (w' : World) : Prop := ∃ A c, e = .returned (.tuple #[.slice A bs.length c, .int .i64 (q : Int)]) ∧ Spell w' (fun g => g < w'.heap.size) A bs.length c bs ∧ Below w.heap.size w w'
theorem print_out (a : A) : (∀ w e w', PrTo a w e w' → PkS [] 2 w e w') ∨ (mayA a = true ∧ prints (lineOf a) (fldsOf a) ∧ (pr (lineOf a) (fldsOf a)).length ≤ 512 ∧ ∀ w e w', PrTo a w e w' → PkS (pr (lineOf a) (fldsOf a)) 0 w e w') := by
  have hnil : ∀ w : World, Spell w (fun g => g < w.heap.size) none 0 0 [] := fun w => ⟨rfl, Nat.le_refl _, fun _ => rfl, by unfold maxLen; omega, by simp [ints], fun h => absurd h (by simp [ints])⟩
  cases hm : mayA a with
  | false =>
    refine .inl fun w e w' h => ?_
    obtain ⟨rfl, hb⟩ := h.2 hm
    exact ⟨none, 0, rfl, hnil w', hb⟩
  | true =>
    by_cases hp : prints (lineOf a) (fldsOf a)
    · refine .inr ⟨rfl, hp, ((prints_iff _ _).1 hp).2, fun w e w' h => ?_⟩
      obtain ⟨A, c, rfl, hr, hb⟩ := (h.1 hm).1 hp
      exact ⟨A, c, rfl, hr.spell rfl, hb⟩
    · refine .inl fun w e w' h => ?_
      obtain ⟨rfl, hb⟩ := (h.1 hm).2 hp
      exact ⟨none, 0, rfl, hnil w', hb⟩

def greatA (a : A) : Bool := decide (600 < a.t.length) || decide (600 < a.us.length) || decide (600 < a.ps.length) || decide (600 < a.tk.length)
theorem small_not {a : A} (h : greatA a = false) : SmallA a := by
  unfold greatA at h
  simp at h
  exact ⟨by omega, by omega, by omega⟩
set_option maxRecDepth 100000 in
set_option maxHeartbeats 4000000 in
theorem great_any (a : A) (w : World) : Calls Tryz.prog 9 #[av a] w (Gives (.bool (greatA a)) w) := by
  obtain ⟨r, hr⟩ : ∃ r, greatA a = r := ⟨_, rfl⟩
  rw [hr]
  unfold greatA at hr
  have s1 : (S a.t).size = a.t.length := S_size _
  have s2 : (S a.us).size = a.us.length := S_size _
  have s3 : (S a.ps).size = a.ps.length := S_size _
  have s4 : (S a.tk).size = a.tk.length := S_size _
  unfold av
  generalize (a.k : Int) = k at *
  generalize a.t.length = n1 at *
  generalize a.us.length = n2 at *
  generalize a.ps.length = n3 at *
  generalize a.tk.length = n4 at *
  generalize S a.us = us at *
  generalize S a.ps = ps at *
  generalize S a.tk = tk at *
  generalize S a.t = t at *
  generalize a.p = p at *
  generalize a.sg = sg at *
  generalize a.hp = hp' at *
  have HX := Bx.mk (Lies.new w 27 #[.int .u8 k, .string t, .int .i64 p, .bool sg, .string us, .string ps, .bool hp', .string tk])
  have HB : Bx (Below w.heap.size w (w.alloc (.cells #[.int .u8 k, .string t, .int .i64 p, .bool sg, .string us, .string ps, .bool hp', .string tk] 27))) := ⟨(Below.refl _ _).alloc (Nat.le_refl _) _⟩
  have HR := Bx.mk hr
  clear hr
  by_cases q1 : 600 < n1
  · have p1 : (600 : Int) < (n1 : Int) := by omega
    have hrt : r = true := by rw [← HR.out]; simp [q1]
    subst hrt
    clear HR q1
    go_enter Tryz.func9, Tryz.ntmps9
    go_upto_region 1 with fail
    generalize w.alloc (.cells #[.int .u8 k, .string t, .int .i64 p, .bool sg, .string us, .string ps, .bool hp', .string tk] 27) = W1 at *
    obtain ⟨r0, r1, r2, r3, r4, r5, r6, r7⟩ := eight HX.out
    go_wp2_with fail
    exact bodyPost_ret (v := .bool true) (by simp [results, Tryz.results9, go_sem]) rfl ⟨rfl, HB.out⟩
  have p1 : ¬ (600 : Int) < (n1 : Int) := by omega
  by_cases q2 : 600 < n2
  · have p2 : (600 : Int) < (n2 : Int) := by omega
    have hrt : r = true := by rw [← HR.out]; simp [q2]
    subst hrt
    clear HR q1 q2
    go_enter Tryz.func9, Tryz.ntmps9
    go_upto_region 1 with fail
    generalize w.alloc (.cells #[.int .u8 k, .string t, .int .i64 p, .bool sg, .string us, .string ps, .bool hp', .string tk] 27) = W1 at *
    obtain ⟨r0, r1, r2, r3, r4, r5, r6, r7⟩ := eight HX.out
    go_wp2_with fail
    exact bodyPost_ret (v := .bool true) (by simp [results, Tryz.results9, go_sem]) rfl ⟨rfl, HB.out⟩
  have p2 : ¬ (600 : Int) < (n2 : Int) := by omega
  by_cases q3 : 600 < n3
  · have p3 : (600 : Int) < (n3 : Int) := by omega
    have hrt : r = true := by rw [← HR.out]; simp [q3]
    subst hrt
    clear HR q1 q2 q3
    go_enter Tryz.func9, Tryz.ntmps9
    go_upto_region 1 with fail
    generalize w.alloc (.cells #[.int .u8 k, .string t, .int .i64 p, .bool sg, .string us, .string ps, .bool hp', .string tk] 27) = W1 at *
    obtain ⟨r0, r1, r2, r3, r4, r5, r6, r7⟩ := eight HX.out
    go_wp2_with fail
    exact bodyPost_ret (v := .bool true) (by simp [results, Tryz.results9, go_sem]) rfl ⟨rfl, HB.out⟩
  have p3 : ¬ (600 : Int) < (n3 : Int) := by omega
  by_cases q4 : 600 < n4
  · have p4 : (600 : Int) < (n4 : Int) := by omega
    have hrt : r = true := by rw [← HR.out]; simp [q4]
    subst hrt
    clear HR q1 q2 q3 q4
    go_enter Tryz.func9, Tryz.ntmps9
    go_upto_region 1 with fail
    generalize w.alloc (.cells #[.int .u8 k, .string t, .int .i64 p, .bool sg, .string us, .string ps, .bool hp', .string tk] 27) = W1 at *
    obtain ⟨r0, r1, r2, r3, r4, r5, r6, r7⟩ := eight HX.out
    go_wp2_with fail
    exact bodyPost_ret (v := .bool true) (by simp [results, Tryz.results9, go_sem]) rfl ⟨rfl, HB.out⟩
  have p4 : ¬ (600 : Int) < (n4 : Int) := by omega
  have hrt : r = false := by rw [← HR.out]; simp [q1, q2, q3, q4]
  subst hrt
  clear HR q1 q2 q3 q4
  go_enter Tryz.func9, Tryz.ntmps9
  go_upto_region 1 with fail
  generalize w.alloc (.cells #[.int .u8 k, .string t, .int .i64 p, .bool sg, .string us, .string ps, .bool hp', .string tk] 27) = W1 at *
  obtain ⟨r0, r1, r2, r3, r4, r5, r6, r7⟩ := eight HX.out
  go_wp2_with fail
  exact bodyPost_ret (v := .bool false) (by simp [results, Tryz.results9, go_sem]) rfl ⟨rfl, HB.out⟩
set_option maxRecDepth 100000 in
set_option maxHeartbeats 8000000 in
theorem back_main {w : World} (he : hw.Env w) (a : A) {B : Option Addr} {m d : Nat} {ds : Str} (hd : Spell w (fun g => g < w.heap.size) B m d ds) : ∀ x, x = av a → Calls Tryz.prog 4 #[x, .slice B m d] w (True_ w) := by
  have HAW := Bx.mk (fun (w : World) (he : hw.Env w) => awake_any he)
  have HGr := Bx.mk (fun w => great_any a w)
  obtain ⟨r, hr⟩ : ∃ r, greatA a = r := ⟨_, rfl⟩
  rw [hr] at HGr
  have HCp : Bx (r = false → ∀ w, hw.Env w → Calls Tryz.prog 11 #[av a] w (PrTo a w)) := ⟨fun h w he => cprint_any he a (small_not (by rw [hr]; exact h))⟩
  have HEq := fun W => av_self a (rfl : av a = av a) W
  have HOut := Bx.mk (print_out a)
  have HCt := Bx.mk (fun (hm : mayA a = true) (hp : prints (lineOf a) (fldsOf a)) (m : Str) => ctake_print hm hp m)
  have HTk : Bx (∀ s, ctake s = (a, s.length - m, 0) → True) := ⟨fun _ _ => trivial⟩
  have HV : Bx (∀ n : Nat, CTakeTo (a, n, 0) = fun w e w' => Gives (.tuple #[av a, .int .i64 (n : Int), .int .i64 0]) w e w') := ⟨fun n => rfl⟩
  intro x hx
  unfold av at hx HGr HCp HEq HV
  generalize hk : (a.k : Int) = k at *
  generalize hus : S a.us = us at *
  generalize hps : S a.ps = ps at *
  generalize htk : S a.tk = tk at *
  generalize ht : S a.t = t at *
  generalize hp0 : a.p = p at *
  generalize hsg : a.sg = sg at *
  generalize hhp : a.hp = hp' at *
  subst hx
  have HX := Bx.mk (Lies.new w 27 #[.int .u8 k, .string t, .int .i64 p, .bool sg, .string us, .string ps, .bool hp', .string tk])
  have hb0 : Below w.heap.size w (w.alloc (.cells #[.int .u8 k, .string t, .int .i64 p, .bool sg, .string us, .string ps, .bool hp', .string tk] 27)) := (Below.refl _ _).alloc (Nat.le_refl _) _
  have HD := Bx.mk (sp_next hd hb0)
  have HDL := Bx.mk (spell_len hd)
  have HE := Bx.mk he
  have HAW1 := Bx.mk (HAW.out _ (he.below hb0))
  have HB := Bx.mk hb0
  clear hd he hb0 hr hk hus hps htk ht hp0 hsg hhp HTk HAW
  go_enter Tryz.func4, Tryz.ntmps4
  go_upto_region 1 with fail
  generalize w.alloc (.cells #[.int .u8 k, .string t, .int .i64 p, .bool sg, .string us, .string ps, .bool hp', .string tk] 27) = W1 at *
  go_wp2_with fail
  refine HAW1.out.mono ?_
  rintro e w2 ⟨rfl, hb2⟩
  have HX2 := Bx.mk (HX.out.below hb2 HX.out.lt)
  have HD2 := Bx.mk (sp_next HD.out hb2)
  have HB2 := Bx.mk (HB.out.trans (hb2.mono HB.out.size))
  obtain ⟨r0, r1, r2, r3, r4, r5, r6, r7⟩ := eight HX2.out
  clear hb2 HX HD HB HAW1
  go_wp2_with fail
  refine (HGr.out _).mono ?_
  rintro e w3 ⟨rfl, hb3⟩
  have HX3 := Bx.mk (HX2.out.below hb3 HX2.out.lt)
  have HD3 := Bx.mk (sp_next HD2.out hb3)
  have HB3 := Bx.mk (HB2.out.trans (hb3.mono HB2.out.size))
  clear hb3 HX2 HD2 HB2 HGr r0 r1 r2 r3 r4 r5 r6 r7
  obtain ⟨r0, r1, r2, r3, r4, r5, r6, r7⟩ := eight HX3.out
  cases r with
  | true =>
    go_wp2_with fail
    exact bodyPost_ret (v := .bool true) (by simp [results, Tryz.results4, go_sem]) rfl ⟨rfl, HB3.out⟩
  | false =>
  by_cases hm6 : 600 < m
  · have q : (600 : Int) < (m : Int) := by omega
    clear hm6
    go_wp2_with fail
    exact bodyPost_ret (v := .bool true) (by simp [results, Tryz.results4, go_sem]) rfl ⟨rfl, HB3.out⟩
  have q : ¬ (600 : Int) < (m : Int) := by omega
  have hm6' : m ≤ 600 := by omega
  have HP3 := Bx.mk (HCp.out rfl w3 (HE.out.below HB3.out))
  clear hm6
  go_wp2_with fail
  refine HP3.out.mono ?_
  intro e w4 hpr
  rcases HOut.out with h | ⟨hma, hpp, h512, h⟩
  · obtain ⟨A4, c4, rfl, hs4, hb4⟩ := h _ _ _ hpr
    have HB4 := Bx.mk (HB3.out.trans (hb4.mono HB3.out.size))
    clear hpr h hs4 hb4 HP3 HOut r0 r1 r2 r3 r4 r5 r6 r7
    go_wp2_with fail
    exact bodyPost_ret (v := .bool true) (by simp [results, Tryz.results4, go_sem]) rfl ⟨rfl, HB4.out⟩
  · obtain ⟨A4, c4, rfl, hs4, hb4⟩ := h _ _ _ hpr
    have hct := HCt.out hma hpp ds
    obtain ⟨bs, hbs⟩ : ∃ bs, pr (lineOf a) (fldsOf a) = bs := ⟨_, rfl⟩
    rw [hbs] at hct hs4 h512 ⊢
    obtain ⟨n, hn⟩ : ∃ n, bs.length = n := ⟨_, rfl⟩
    rw [hn] at hct hs4 h512 ⊢
    have HB4 := Bx.mk (HB3.out.trans (hb4.mono HB3.out.size))
    have hd4 := sp_next HD3.out hb4
    obtain ⟨A5, c5, w5, A6, c6, w6, ha5, ha6, hm6⟩ := both hs4 hd4 (by omega) (by omega)
    have HA5 := Bx.mk ha5
    have HA6 := Bx.mk ha6
    have hL6 : (bs ++ ds).length = n + m := by rw [List.length_append, hn, HDL.out]
    have hb6 := HB4.out.trans (hm6.below.mono HB4.out.size)
    have hT := ctake_any (HE.out.below hb6) (made_spell hm6 hL6)
    rw [hct, HV.out] at hT
    have HT := Bx.mk hT
    have HX6 := Bx.mk ((HX3.out.below hb4 HX3.out.lt).below hm6.below (Nat.lt_of_lt_of_le HX3.out.lt hb4.size))
    have HB6 := Bx.mk hb6
    have qn : (n : Int) ≤ 512 := by omega
    clear hpr h hs4 hb4 HP3 HOut r0 r1 r2 r3 r4 r5 r6 r7 hct hd4 ha5 ha6 hm6 hL6 hb6 hT hma hpp HCt HCp hbs hn HV HB3 HD3
    go_wp2_with (at_builtin; first | (refine wpList_append_eq rfl _ _ rfl rfl rfl rfl HA5.out ?_; clear HA5) | (refine wpList_append_eq rfl _ _ rfl rfl rfl rfl HA6.out ?_; clear HA6))
    refine HT.out.mono ?_
    rintro e w7 ⟨rfl, hb7⟩
    have hb7a := hb7.alloc hb7.size (.cells #[.int .u8 k, .string t, .int .i64 p, .bool sg, .string us, .string ps, .bool hp', .string tk] 27)
    have HX7 := Bx.mk (HX6.out.below hb7a HX6.out.lt)
    have HY7 := Bx.mk (Lies.new w7 27 #[.int .u8 k, .string t, .int .i64 p, .bool sg, .string us, .string ps, .bool hp', .string tk])
    have HB7 := Bx.mk (HB6.out.trans (hb7a.mono HB6.out.size))
    clear hb7 hb7a HX6 HB6 HT
    go_upto_region 9 with fail
    generalize w7.alloc (.cells #[.int .u8 k, .string t, .int .i64 p, .bool sg, .string us, .string ps, .bool hp', .string tk] 27) = W7 at *
    generalize w7.heap.size = g7 at *
    obtain ⟨r0, r1, r2, r3, r4, r5, r6, r7⟩ := eight HX7.out
    obtain ⟨m0, m1, m2, m3, m4, m5, m6, m7⟩ := eight HY7.out
    have qq : ((n : Int) == (n : Int)) = true := by simp
    go_wp2_with fail
    exact bodyPost_ret (v := .bool true) (by simp [results, Tryz.results4, go_sem]) rfl ⟨rfl, HB7.out⟩
theorem back_walk {w : World} (he : hw.Env w) (a : A) {B : Option Addr} {m d : Nat} {bs : List Int} (hd : Src w (fun g => g < w.heap.size) B m d bs) : Calls Tryz.prog 4 #[av a, .slice B m d] w (True_ w) := by
  obtain ⟨ds, rfl⟩ := ints_of hd.rng
  exact back_main he a hd _ rfl
end Go.Proofs.YtghdaengkgiekaaGreatDoor.cn
