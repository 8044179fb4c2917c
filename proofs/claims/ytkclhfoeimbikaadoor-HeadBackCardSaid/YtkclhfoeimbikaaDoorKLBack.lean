/-
  Given for the seat's laws: HeadBack at any head and bytes. No condition but those of the theorem.
-/
import Derived.Test.YtkclhfoeimbikaaDoorKGreat
import Derived.Test.YtkclhfoeimbikaaDoorKPure2
namespace Go.Proofs.YtkclhfoeimbikaaDoor.hd
open Go.RowKit mem
set_option linter.unusedVariables false

theorem alloc_fat {W : World} {o : Obj} {A : Option Addr} {n c : Nat} {fs : Flds} (h : FAt W (fun g => g < W.heap.size) A n c fs) : FAt (W.alloc o) (fun g => g < (W.alloc o).heap.size) A n c fs :=
  (h.below ((Below.refl _ _).alloc (Nat.le_refl _) o) (fun g hg => hg)).weak fun g hg => by simp; omega
theorem fat_next {W W' : World} {A : Option Addr} {n c : Nat} {fs : Flds} (h : FAt W (fun g => g < W.heap.size) A n c fs) (hb : Below W.heap.size W W') : FAt W' (fun g => g < W'.heap.size) A n c fs :=
  (h.below hb (fun g hg => hg)).weak fun g hg => Nat.lt_of_lt_of_le hg hb.size
theorem mem_le_sum {l : List Nat} {x : Nat} (h : x ∈ l) : x ≤ l.sum := by
  induction l with
  | nil => cases h
  | cons a t ih =>
    rw [List.sum_cons]
    rcases List.mem_cons.1 h with rfl | h
    · omega
    · have := ih h; omega
theorem taken_small {b l : Str} {fs : Flds} {n : Nat} (h : take b = (l, fs, n, 0)) : Small l fs ∧ n ≤ 512 ∧ n ≤ b.length := by
  obtain ⟨h1, _, h3⟩ := take_inv h
  have hn : n ≤ 512 ∧ n ≤ b.length := by
    rcases go_kinds start 0 b with ⟨_, _, a2, a3⟩ | ⟨a, _⟩ | a | a
    · rw [show go start 0 b = _ from h] at a2 a3
      exact ⟨a3 (by omega), by have : n ≤ 0 + b.length := a2; omega⟩
    all_goals
      rw [show go start 0 b = _ from h] at a
      simp at a
  have hs : sizeF fs + l.length ≤ 512 := by unfold size at h3; omega
  refine ⟨⟨by omega, by have := h1.most; omega, fun p hp => ?_⟩, hn⟩
  have : p.1.length + p.2.length + 3 ≤ sizeF fs := by
    unfold sizeF
    exact mem_le_sum (List.mem_map.2 ⟨p, hp, rfl⟩)
  omega
theorem prints_len {l : Str} {fs : Flds} (h : prints l fs) : (pr l fs).length ≤ 512 := ((prints_iff l fs).1 h).2
theorem not_prints {b l : Str} {fs : Flds} {n : Nat} (h : take b = (l, fs, n, 0)) (hp : ¬ prints l fs) : 512 < n + fs.length := by
  obtain ⟨h1, _, h3⟩ := take_inv h
  have h4 := pr_len l fs
  rcases Nat.lt_or_ge 512 (n + fs.length) with h5 | h5
  · exact h5
  · exact absurd ((prints_iff l fs).2 ⟨h1, by omega⟩) hp
theorem err_kinds {b l : Str} {fs : Flds} {n e : Nat} (h : take b = (l, fs, n, e)) (he : e ≠ 0) : n = 0 ∧ (e = 5 ∨ e = 6 ∨ e = 3) := by
  rcases go_kinds start 0 b with ⟨a, _⟩ | ⟨a, _⟩ | a | a
  · rw [show go start 0 b = _ from h] at a
    exact absurd a he
  all_goals
    rw [show go start 0 b = _ from h] at a
    simp at a
    exact ⟨a.2.2.1, by omega⟩
set_option maxHeartbeats 16000000 in
set_option maxRecDepth 100000 in
theorem back_walk {w : World} {A : Option Addr} {n c : Nat} {l : Str} {fs : Flds} (hf : FAt w (fun g => g < w.heap.size) A n c fs) {B : Option Addr} {m d : Nat} {bs : List Int} (hs : Src w (fun g => g < w.heap.size) B m d bs) :
    Calls Tryd.prog 5 #[.agg #[.string (S l), .slice A n c], .slice B m d] w (True_ w) := by
  obtain ⟨b, rfl⟩ := ints_of hs.rng
  have HBL := Bx.mk (spell_len hs)
  obtain ⟨l2, fs2, n2, e2, hx⟩ : ∃ l fs n e, take b = (l, fs, n, e) := ⟨_, _, _, _, rfl⟩
  have HX := Bx.mk hx
  have hb0 : Below w.heap.size w (w.alloc (.cells #[.string (S l), .slice A n c] 25)) := (Below.refl _ _).alloc (Nat.le_refl _) _
  have HST0 : Bx (Std w (w.alloc (.cells #[.string (S l), .slice A n c] 25)) B m d b) := ⟨⟨hb0, Src.below hs hb0 (fun g hg => hg)⟩⟩
  have HF0 := Bx.mk (alloc_fat (o := (.cells #[.string (S l), .slice A n c] 25)) hf)
  have HB0 := Bx.mk (Lies.new w 25 #[.string (S l), .slice A n c])
  clear hf hs hx hb0
  go_enter Tryd.func5, Tryd.ntmps5
  go_upto_region 1 with fail
  generalize w.alloc (.cells #[.string (S l), .slice A n c] 25) = W0 at *
  have HAW := Bx.mk (awake_any W0)
  obtain ⟨gb, hgb⟩ : ∃ gb, gb = w.heap.size := ⟨_, rfl⟩
  rw [← hgb] at HB0 ⊢
  clear hgb
  go_wp2_with fail
  refine HAW.out.mono ?_
  rintro e w1 ⟨rfl, hb1⟩
  have HST1 := Bx.mk (HST0.out.next hb1)
  have HF1 := Bx.mk (fat_next HF0.out hb1)
  have HB1 := Bx.mk (HB0.out.below hb1 HB0.out.lt)
  have x0 := HB1.out.cell 0; have x1 := HB1.out.cell 1
  simp at x0 x1
  clear hb1 HAW HST0 HF0 HB0
  go_wp2_with fail
  refine (great_any (l := l) HF1.out (fun g hg => hg)).mono ?_
  rintro e w2 ⟨r, rfl, hr, hb2⟩
  have HST2 := Bx.mk (HST1.out.next hb2)
  have HF2 := Bx.mk (fat_next HF1.out hb2)
  have HB2 := Bx.mk (HB1.out.below hb2 HB1.out.lt)
  have y0 := HB2.out.cell 0; have y1 := HB2.out.cell 1
  simp at y0 y1
  clear hb2 HST1 HF1 HB1 x0 x1
  cases r with
  | true =>
    clear hr
    go_wp2_with fail
    exact bodyPost_ret (v := .bool true) (by simp [results, Tryd.results5, go_sem]) rfl ⟨rfl, HST2.out.be⟩
  | false =>
    have HSm := Bx.mk (hr rfl)
    clear hr
    by_cases hm : 1500 < m
    · have q : (1500 : Int) < (m : Int) := by omega
      clear hm
      go_wp2_with fail
      exact bodyPost_ret (v := .bool true) (by simp [results, Tryd.results5, go_sem]) rfl ⟨rfl, HST2.out.be⟩
    · have q : ¬ (1500 : Int) < (m : Int) := by omega
      go_wp2_with fail
      refine (print_any (l := l) HF2.out (fun g hg => hg) HSm.out).mono ?_
      intro en w3 hp
      by_cases hpr : prints l fs
      · obtain ⟨A5, c5, rfl, hr5, hb3⟩ := hp.1 hpr
        obtain ⟨M, hM⟩ : ∃ M, (pr l fs).length = M := ⟨_, rfl⟩
        have hM5 : M ≤ 512 := by rw [← hM]; exact prints_len hpr
        rw [hM] at hr5 ⊢
        have HST3 := Bx.mk (HST2.out.next hb3)
        have HF3 := Bx.mk (fat_next HF2.out hb3)
        have HB3 := Bx.mk (HB2.out.below hb3 HB2.out.lt)
        have hal : Below w3.heap.size w3 (w3.alloc (.cells #[] 5)) := (Below.refl _ _).alloc (Nat.le_refl _) _
        obtain ⟨A6, c6, w5, r1, o1, k1⟩ := (rowG_lit w3).appB rfl (by simp) ((hr5.below hal).spell hM) (by omega)
        rw [Nat.zero_add] at r1 o1
        have bl5 := hal.trans ((rowG_lit w3).kp_below (by simp) k1)
        obtain ⟨A7, c7, w6, r2, o2, k2⟩ := RowG.appB (l := pr l fs) o1 hM bl5.size (HST3.out.next bl5).sp (by omega)
        have bl6 := bl5.trans (o1.kp_below bl5.size k2)
        have R1 := Bx.mk r1
        have R2 := Bx.mk r2
        have htk := take_pr ((prints_iff l fs).1 hpr).1 (prints_len hpr) b
        rw [hM] at htk
        have HTk := Bx.mk (take_any0 (o2.spell (by rw [List.length_append, hM, HBL.out])) (fun g hg => hg))
        have HTK := Bx.mk htk
        have HST6 := Bx.mk (HST3.out.next bl6)
        have HF6 := Bx.mk (fat_next HF3.out bl6)
        have HB6 := Bx.mk (HB3.out.below bl6 HB3.out.lt)
        clear hp hpr hr5 hb3 hM hal r1 o1 k1 bl5 r2 o2 k2 bl6 htk HST3 HF3 HB3 HST2 HF2 HB2 y0 y1
        go_wp2_with (at_builtin; first | (refine wpList_append_g rfl _ _ 22 22 rfl rfl rfl rfl R1.out ?_; clear R1) | (refine wpList_append_g rfl _ _ 22 22 rfl rfl rfl rfl R2.out ?_; clear R2))
        refine HTk.out.mono ?_
        intro en w7 ht
        obtain ⟨A8, c8, rfl, hf8, hb7⟩ := take_r HTK.out ht
        obtain ⟨k, hk⟩ : ∃ k, (lowF fs).length = k := ⟨_, rfl⟩
        rw [hk] at hf8 ⊢
        have L := Lies.new w7 25 #[.string (S l), .slice A8 k c8]
        have hb8 := hb7.alloc hb7.size (.cells #[.string (S l), .slice A8 k c8] 25)
        have HF8 := Bx.mk (alloc_fat (o := (.cells #[.string (S l), .slice A8 k c8] 25)) hf8)
        have HL8 := Bx.mk L
        have HST8' := Bx.mk (HST6.out.next hb8)
        have HF7 := Bx.mk (fat_next HF6.out hb8)
        have HB7 := Bx.mk (HB6.out.below hb8 HB6.out.lt)
        clear ht hf8 hb7 L hb8 HTk HST6 HF6 HB6
        go_upto_region 8 with fail
        generalize w7.alloc (.cells #[.string (S l), .slice A8 k c8] 25) = W7 at *
        generalize w7.heap.size = g7 at *
        have x0 := HL8.out.cell 0; have x1 := HL8.out.cell 1
        have y0 := HB7.out.cell 0; have y1 := HB7.out.cell 1
        simp at x0 x1 y0 y1
        have HC : Bx (∀ W', Below W7.heap.size W7 W' → W'.cell? ⟨g7, 0, none⟩ = some (.string (S l)) ∧ W'.cell? ⟨g7, 1, none⟩ = some (.slice A8 k c8) ∧ W'.cell? ⟨gb, 0, none⟩ = some (.string (S l)) ∧ W'.cell? ⟨gb, 1, none⟩ = some (.slice A n c)) := ⟨fun W' hb => ⟨cell_kept x0 hb, cell_kept x1 hb, cell_kept y0 hb, cell_kept y1 hb⟩⟩
        have b0 : Below W7.heap.size W7 W7.drew := (Below.refl _ _).drew
        have HLow := Bx.mk (low_any (w := W7.drew) (l := l) (fat_next HF7.out b0) (fun g hg => hg) HSm.out)
        have q5 : ((M : Int) != (M : Int)) = false := by simp
        have q6 : ¬ (512 : Int) < (M : Int) := by omega
        have hkl : k ≤ 30 := by rw [← hk, lowF_len]; exact HSm.out.most
        clear x0 x1 y0 y1
        go_region_held3 (fun W' => W'.cell? ⟨g7, 0, none⟩ = some (.string (S l)) ∧ W'.cell? ⟨g7, 1, none⟩ = some (.slice A8 k c8) ∧ W'.cell? ⟨gb, 0, none⟩ = some (.string (S l)) ∧ W'.cell? ⟨gb, 1, none⟩ = some (.slice A n c))
          (exact HC.out _ b0)
          (first
            | (go_at_call 23; refine HLow.out.mono ?_; rintro e w9 ⟨A11, c11, rfl, hr11, hb9⟩; replace b0 := b0.trans (hb9.mono b0.size); have hS := Same_any (w := w9) (va := .agg #[.string (S l), .slice A8 k c8]) (vb := .agg #[.string (S l), .slice A11 fs.length c11]) ⟨A8, _, c8, rfl, fat_next HF8.out b0⟩ (fun g hg => hg) ⟨A11, _, c11, rfl, rowF_at hr11 (lowF_len fs)⟩ (fun g hg => hg) (by rw [hk]; omega); rw [decide_eq_true (⟨rfl, rfl⟩ : l = l ∧ lowF fs = lowF fs)] at hS; have HSa := Bx.mk hS; clear hr11 hb9 hS)
            | (go_at_call 17; refine HSa.out.mono ?_; rintro e w10 ⟨rfl, hb10⟩; replace b0 := b0.trans (hb10.mono b0.size); clear hb10))
        have HST := Bx.mk (HST8'.out.next b0)
        clear b0 HC HLow HSa HST8' HF7 HB7 HF8 HL8 hk
        go_wp2_with fail
        have HTk := Bx.mk (take_any0 HST.out.sp (fun g hg => Nat.lt_of_lt_of_le hg HST.out.be.size))
        refine HTk.out.mono ?_
        intro en w8 ht
        obtain ⟨A10, c10, rfl, hf10, hb8⟩ := take_r HX.out ht
        have L := Lies.new w8 25 #[.string (S l2), .slice A10 fs2.length c10]
        have HF10 := Bx.mk (alloc_fat (o := (.cells #[.string (S l2), .slice A10 fs2.length c10] 25)) hf10)
        have HST8 := Bx.mk (HST.out.next (hb8.alloc hb8.size (.cells #[.string (S l2), .slice A10 fs2.length c10] 25)))
        have HL10 := Bx.mk L
        clear ht hf10 hb8 L HTk HST
        go_upto_region 13 with fail
        generalize w8.alloc (.cells #[.string (S l2), .slice A10 fs2.length c10] 25) = W8 at *
        generalize w8.heap.size = g10 at *
        by_cases he : e2 = 0
        · subst he
          have hT := taken_small HX.out
          have hInv := take_inv HX.out
          have HInv := Bx.mk hInv
          have HSm2 := Bx.mk hT.1
          have q1 : decide ((m : Int) < (n2 : Int)) = false := decide_eq_false (by have := HBL.out; omega)
          have q1b : decide (m < n2) = false := decide_eq_false (by have := HBL.out; omega)
          have q2 : decide ((512 : Int) < (n2 : Int)) = false := decide_eq_false (by omega)
          have q3 : decide ((16 : Int) < (fs2.length : Int)) = false := decide_eq_false (by have := hInv.1.most; omega)
          have q4 : (S l2).toList.isEmpty = false := by rw [empty_iff, S_list]; exact decide_eq_false hInv.1.line.1
          have z0 := HL10.out.cell 0; have z1 := HL10.out.cell 1
          simp at z0 z1
          obtain ⟨k, hk⟩ : ∃ k, fs2.length = k := ⟨_, rfl⟩
          have HK := Bx.mk hk
          rw [hk] at z1 q3
          have HF10' := HF10.out
          rw [hk] at HF10'
          have HF10k := Bx.mk HF10'
          have HL10' := HL10.out
          rw [hk] at HL10'
          have HLk := Bx.mk HL10'
          have hn2 : n2 ≤ 512 := hT.2.1
          have hk16 : k ≤ 16 := by rw [← hk]; exact hInv.1.most
          have HC : Bx (∀ W', Below W8.heap.size W8 W' → W'.cell? ⟨g10, 0, none⟩ = some (.string (S l2)) ∧ W'.cell? ⟨g10, 1, none⟩ = some (.slice A10 k c10)) := ⟨fun W' hb => ⟨cell_kept z0 hb, cell_kept z1 hb⟩⟩
          have b0 : Below W8.heap.size W8 W8.drew := (Below.refl _ _).drew
          have HLow := Bx.mk (low_any (w := W8.drew) (l := l2) (fat_next HF10k.out b0) (fun g hg => hg) HSm2.out)
          clear hT hInv hk HF10' HL10 HL10' HF10
          go_wp2_with fail
          go_upto_region 15 with fail
          go_region_held3 (fun W' => W'.cell? ⟨g10, 0, none⟩ = some (.string (S l2)) ∧ W'.cell? ⟨g10, 1, none⟩ = some (.slice A10 k c10))
            (exact HC.out _ b0)
            (first
              | (go_at_call 23; refine HLow.out.mono ?_; rintro e w9 ⟨A11, c11, rfl, hr11, hb9⟩; rw [HInv.out.2.1] at hr11; replace b0 := b0.trans (hb9.mono b0.size); have hS := Same_any (w := w9) (va := .agg #[.string (S l2), .slice A11 fs2.length c11]) (vb := .agg #[.string (S l2), .slice A10 k c10]) ⟨A11, _, c11, rfl, rowF_at hr11 rfl⟩ (fun g hg => hg) ⟨A10, _, c10, rfl, fat_next HF10k.out b0⟩ (fun g hg => hg) (by have := HSm2.out.most; omega); rw [decide_eq_true (⟨rfl, rfl⟩ : l2 = l2 ∧ fs2 = fs2)] at hS; have HSa := Bx.mk hS; clear hr11 hb9 hS)
              | (go_at_call 17; refine HSa.out.mono ?_; rintro e w10 ⟨rfl, hb10⟩; replace b0 := b0.trans (hb10.mono b0.size); clear hb10))
          have HLw := Bx.mk (HLk.out.below b0 HLk.out.lt)
          have HFw := Bx.mk (fat_next HF10k.out b0)
          have HSTw := Bx.mk (HST8.out.next b0)
          have y0 := HLw.out.cell 0; have y1 := HLw.out.cell 1
          simp at y0 y1
          clear b0 HC HLow HSa HLk HF10k HST8 z0 z1 q1 q1b q2 q3 q4
          go_wp2_with fail
          refine (print_any (l := l2) HFw.out (fun g hg => hg) HSm2.out).mono ?_
          intro en w11 hp
          by_cases hpr : prints l2 fs2
          · obtain ⟨A12, c12, rfl, hr12, hb11⟩ := hp.1 hpr
            obtain ⟨M2, hM2⟩ : ∃ M2, (pr l2 fs2).length = M2 := ⟨_, rfl⟩
            have hM5 : M2 ≤ 512 := by rw [← hM2]; exact prints_len hpr
            have hle : M2 ≤ n2 + k := by have h1 := pr_len l2 fs2; have h2 := HInv.out.2.2; rw [HK.out, hM2] at h1; omega
            rw [hM2] at hr12 ⊢
            have htk : take (pr l2 fs2) = (l2, lowF fs2, M2, 0) := by have := hpr; unfold prints at this; rw [this, hM2]
            rw [HInv.out.2.1] at htk
            have HTk := Bx.mk (take_any0 (hr12.spell hM2) (fun g hg => hg))
            have HTK := Bx.mk htk
            have HL11 := Bx.mk (HLw.out.below hb11 HLw.out.lt)
            have HF11 := Bx.mk (fat_next HFw.out hb11)
            have HST11 := Bx.mk (HSTw.out.next hb11)
            clear hp hpr hr12 hb11 hM2 htk HLw HFw HSTw y0 y1
            go_wp2_with fail
            refine HTk.out.mono ?_
            intro en w12 ht
            obtain ⟨A13, c13, rfl, hf13, hb12⟩ := take_r HTK.out ht
            rw [HK.out] at *
            have L := Lies.new w12 25 #[.string (S l2), .slice A13 k c13]
            have hb13 := hb12.alloc hb12.size (.cells #[.string (S l2), .slice A13 k c13] 25)
            have HF13 := Bx.mk (alloc_fat (o := (.cells #[.string (S l2), .slice A13 k c13] 25)) hf13)
            have HL13 := Bx.mk L
            have HL14 := Bx.mk (HL11.out.below hb13 HL11.out.lt)
            have HF14 := Bx.mk (fat_next HF11.out hb13)
            have HST14 := Bx.mk (HST11.out.next hb13)
            clear ht hf13 hb12 L hb13 HTk HL11 HF11 HST11
            go_upto_region 21 with fail
            generalize w12.alloc (.cells #[.string (S l2), .slice A13 k c13] 25) = W13 at *
            generalize w12.heap.size = g13 at *
            have hS := Same_any (w := W13) (va := .agg #[.string (S l2), .slice A13 k c13]) (vb := .agg #[.string (S l2), .slice A10 k c10]) ⟨A13, _, c13, rfl, HF13.out⟩ (fun g hg => hg) ⟨A10, _, c10, rfl, HF14.out⟩ (fun g hg => hg) (by have := HSm2.out.most; omega)
            rw [decide_eq_true (⟨rfl, rfl⟩ : l2 = l2 ∧ fs2 = fs2)] at hS
            have HSa := Bx.mk hS
            have x0 := HL13.out.cell 0; have x1 := HL13.out.cell 1
            have y0 := HL14.out.cell 0; have y1 := HL14.out.cell 1
            simp at x0 x1 y0 y1
            have r1 : ((M2 : Int) == (M2 : Int)) = true := by simp
            have r2 : IntKind.i64.wrap ((n2 : Int) + (k : Int)) = (n2 : Int) + (k : Int) := IntWalk.i64_in _ (by omega)
            have r3 : (M2 : Int) ≤ (n2 : Int) + (k : Int) := by omega
            have HCy : Bx (∀ W', Below W13.heap.size W13 W' → W'.cell? ⟨g10, 1, none⟩ = some (.slice A10 k c10)) := ⟨fun W' hb => cell_kept y1 hb⟩
            clear hS
            go_wp2_with fail
            refine HSa.out.mono ?_
            rintro e w14 ⟨rfl, hb14⟩
            have y2 := HCy.out _ hb14
            have HE := Bx.mk (HST14.out.next hb14)
            clear hb14 x0 x1 y0 y1 HCy HSa
            go_wp2_with fail
            exact bodyPost_ret (v := .bool true) (by simp [results, Tryd.results5, go_sem]) rfl ⟨rfl, HE.out.be⟩
          · obtain ⟨rfl, hb11⟩ := hp.2 hpr
            have h512 := not_prints HX.out hpr
            rw [HK.out] at h512
            have r2 : IntKind.i64.wrap ((n2 : Int) + (k : Int)) = (n2 : Int) + (k : Int) := IntWalk.i64_in _ (by omega)
            have r3 : (512 : Int) < (n2 : Int) + (k : Int) := by omega
            have y2 := cell_kept y1 hb11
            have HE := Bx.mk (HSTw.out.next hb11)
            clear hp hpr hb11 h512 y0 y1
            go_wp2_with fail
            exact bodyPost_ret (v := .bool true) (by simp [results, Tryd.results5, go_sem]) rfl ⟨rfl, HE.out.be⟩
        · obtain ⟨rfl, hk⟩ := err_kinds HX.out he
          have q0 : ((e2 : Int) != 0) = true := by simp; omega
          rcases hk with rfl | rfl | rfl
          all_goals
            clear he
            go_wp2_with fail
            exact bodyPost_ret (v := .bool true) (by simp [results, Tryd.results5, go_sem]) rfl ⟨rfl, HST8.out.be⟩
      · obtain ⟨rfl, hb3⟩ := hp.2 hpr
        have HST := Bx.mk (HST2.out.next hb3)
        clear hp hpr hb3 HST2 HF2 HB2 y0 y1
        go_wp2_with fail
        have HTk := Bx.mk (take_any0 HST.out.sp (fun g hg => Nat.lt_of_lt_of_le hg HST.out.be.size))
        refine HTk.out.mono ?_
        intro en w8 ht
        obtain ⟨A10, c10, rfl, hf10, hb8⟩ := take_r HX.out ht
        have L := Lies.new w8 25 #[.string (S l2), .slice A10 fs2.length c10]
        have HF10 := Bx.mk (alloc_fat (o := (.cells #[.string (S l2), .slice A10 fs2.length c10] 25)) hf10)
        have HST8 := Bx.mk (HST.out.next (hb8.alloc hb8.size (.cells #[.string (S l2), .slice A10 fs2.length c10] 25)))
        have HL10 := Bx.mk L
        clear ht hf10 hb8 L HTk HST
        go_upto_region 13 with fail
        generalize w8.alloc (.cells #[.string (S l2), .slice A10 fs2.length c10] 25) = W8 at *
        generalize w8.heap.size = g10 at *
        by_cases he : e2 = 0
        · subst he
          have hT := taken_small HX.out
          have hInv := take_inv HX.out
          have HInv := Bx.mk hInv
          have HSm2 := Bx.mk hT.1
          have q1 : decide ((m : Int) < (n2 : Int)) = false := decide_eq_false (by have := HBL.out; omega)
          have q1b : decide (m < n2) = false := decide_eq_false (by have := HBL.out; omega)
          have q2 : decide ((512 : Int) < (n2 : Int)) = false := decide_eq_false (by omega)
          have q3 : decide ((16 : Int) < (fs2.length : Int)) = false := decide_eq_false (by have := hInv.1.most; omega)
          have q4 : (S l2).toList.isEmpty = false := by rw [empty_iff, S_list]; exact decide_eq_false hInv.1.line.1
          have z0 := HL10.out.cell 0; have z1 := HL10.out.cell 1
          simp at z0 z1
          obtain ⟨k, hk⟩ : ∃ k, fs2.length = k := ⟨_, rfl⟩
          have HK := Bx.mk hk
          rw [hk] at z1 q3
          have HF10' := HF10.out
          rw [hk] at HF10'
          have HF10k := Bx.mk HF10'
          have HL10' := HL10.out
          rw [hk] at HL10'
          have HLk := Bx.mk HL10'
          have hn2 : n2 ≤ 512 := hT.2.1
          have hk16 : k ≤ 16 := by rw [← hk]; exact hInv.1.most
          have HC : Bx (∀ W', Below W8.heap.size W8 W' → W'.cell? ⟨g10, 0, none⟩ = some (.string (S l2)) ∧ W'.cell? ⟨g10, 1, none⟩ = some (.slice A10 k c10)) := ⟨fun W' hb => ⟨cell_kept z0 hb, cell_kept z1 hb⟩⟩
          have b0 : Below W8.heap.size W8 W8.drew := (Below.refl _ _).drew
          have HLow := Bx.mk (low_any (w := W8.drew) (l := l2) (fat_next HF10k.out b0) (fun g hg => hg) HSm2.out)
          clear hT hInv hk HF10' HL10 HL10' HF10
          go_wp2_with fail
          go_upto_region 15 with fail
          go_region_held3 (fun W' => W'.cell? ⟨g10, 0, none⟩ = some (.string (S l2)) ∧ W'.cell? ⟨g10, 1, none⟩ = some (.slice A10 k c10))
            (exact HC.out _ b0)
            (first
              | (go_at_call 23; refine HLow.out.mono ?_; rintro e w9 ⟨A11, c11, rfl, hr11, hb9⟩; rw [HInv.out.2.1] at hr11; replace b0 := b0.trans (hb9.mono b0.size); have hS := Same_any (w := w9) (va := .agg #[.string (S l2), .slice A11 fs2.length c11]) (vb := .agg #[.string (S l2), .slice A10 k c10]) ⟨A11, _, c11, rfl, rowF_at hr11 rfl⟩ (fun g hg => hg) ⟨A10, _, c10, rfl, fat_next HF10k.out b0⟩ (fun g hg => hg) (by have := HSm2.out.most; omega); rw [decide_eq_true (⟨rfl, rfl⟩ : l2 = l2 ∧ fs2 = fs2)] at hS; have HSa := Bx.mk hS; clear hr11 hb9 hS)
              | (go_at_call 17; refine HSa.out.mono ?_; rintro e w10 ⟨rfl, hb10⟩; replace b0 := b0.trans (hb10.mono b0.size); clear hb10))
          have HLw := Bx.mk (HLk.out.below b0 HLk.out.lt)
          have HFw := Bx.mk (fat_next HF10k.out b0)
          have HSTw := Bx.mk (HST8.out.next b0)
          have y0 := HLw.out.cell 0; have y1 := HLw.out.cell 1
          simp at y0 y1
          clear b0 HC HLow HSa HLk HF10k HST8 z0 z1 q1 q1b q2 q3 q4
          go_wp2_with fail
          refine (print_any (l := l2) HFw.out (fun g hg => hg) HSm2.out).mono ?_
          intro en w11 hp
          by_cases hpr : prints l2 fs2
          · obtain ⟨A12, c12, rfl, hr12, hb11⟩ := hp.1 hpr
            obtain ⟨M2, hM2⟩ : ∃ M2, (pr l2 fs2).length = M2 := ⟨_, rfl⟩
            have hM5 : M2 ≤ 512 := by rw [← hM2]; exact prints_len hpr
            have hle : M2 ≤ n2 + k := by have h1 := pr_len l2 fs2; have h2 := HInv.out.2.2; rw [HK.out, hM2] at h1; omega
            rw [hM2] at hr12 ⊢
            have htk : take (pr l2 fs2) = (l2, lowF fs2, M2, 0) := by have := hpr; unfold prints at this; rw [this, hM2]
            rw [HInv.out.2.1] at htk
            have HTk := Bx.mk (take_any0 (hr12.spell hM2) (fun g hg => hg))
            have HTK := Bx.mk htk
            have HL11 := Bx.mk (HLw.out.below hb11 HLw.out.lt)
            have HF11 := Bx.mk (fat_next HFw.out hb11)
            have HST11 := Bx.mk (HSTw.out.next hb11)
            clear hp hpr hr12 hb11 hM2 htk HLw HFw HSTw y0 y1
            go_wp2_with fail
            refine HTk.out.mono ?_
            intro en w12 ht
            obtain ⟨A13, c13, rfl, hf13, hb12⟩ := take_r HTK.out ht
            rw [HK.out] at *
            have L := Lies.new w12 25 #[.string (S l2), .slice A13 k c13]
            have hb13 := hb12.alloc hb12.size (.cells #[.string (S l2), .slice A13 k c13] 25)
            have HF13 := Bx.mk (alloc_fat (o := (.cells #[.string (S l2), .slice A13 k c13] 25)) hf13)
            have HL13 := Bx.mk L
            have HL14 := Bx.mk (HL11.out.below hb13 HL11.out.lt)
            have HF14 := Bx.mk (fat_next HF11.out hb13)
            have HST14 := Bx.mk (HST11.out.next hb13)
            clear ht hf13 hb12 L hb13 HTk HL11 HF11 HST11
            go_upto_region 21 with fail
            generalize w12.alloc (.cells #[.string (S l2), .slice A13 k c13] 25) = W13 at *
            generalize w12.heap.size = g13 at *
            have hS := Same_any (w := W13) (va := .agg #[.string (S l2), .slice A13 k c13]) (vb := .agg #[.string (S l2), .slice A10 k c10]) ⟨A13, _, c13, rfl, HF13.out⟩ (fun g hg => hg) ⟨A10, _, c10, rfl, HF14.out⟩ (fun g hg => hg) (by have := HSm2.out.most; omega)
            rw [decide_eq_true (⟨rfl, rfl⟩ : l2 = l2 ∧ fs2 = fs2)] at hS
            have HSa := Bx.mk hS
            have x0 := HL13.out.cell 0; have x1 := HL13.out.cell 1
            have y0 := HL14.out.cell 0; have y1 := HL14.out.cell 1
            simp at x0 x1 y0 y1
            have r1 : ((M2 : Int) == (M2 : Int)) = true := by simp
            have r2 : IntKind.i64.wrap ((n2 : Int) + (k : Int)) = (n2 : Int) + (k : Int) := IntWalk.i64_in _ (by omega)
            have r3 : (M2 : Int) ≤ (n2 : Int) + (k : Int) := by omega
            have HCy : Bx (∀ W', Below W13.heap.size W13 W' → W'.cell? ⟨g10, 1, none⟩ = some (.slice A10 k c10)) := ⟨fun W' hb => cell_kept y1 hb⟩
            clear hS
            go_wp2_with fail
            refine HSa.out.mono ?_
            rintro e w14 ⟨rfl, hb14⟩
            have y2 := HCy.out _ hb14
            have HE := Bx.mk (HST14.out.next hb14)
            clear hb14 x0 x1 y0 y1 HCy HSa
            go_wp2_with fail
            exact bodyPost_ret (v := .bool true) (by simp [results, Tryd.results5, go_sem]) rfl ⟨rfl, HE.out.be⟩
          · obtain ⟨rfl, hb11⟩ := hp.2 hpr
            have h512 := not_prints HX.out hpr
            rw [HK.out] at h512
            have r2 : IntKind.i64.wrap ((n2 : Int) + (k : Int)) = (n2 : Int) + (k : Int) := IntWalk.i64_in _ (by omega)
            have r3 : (512 : Int) < (n2 : Int) + (k : Int) := by omega
            have y2 := cell_kept y1 hb11
            have HE := Bx.mk (HSTw.out.next hb11)
            clear hp hpr hb11 h512 y0 y1
            go_wp2_with fail
            exact bodyPost_ret (v := .bool true) (by simp [results, Tryd.results5, go_sem]) rfl ⟨rfl, HE.out.be⟩
        · obtain ⟨rfl, hk⟩ := err_kinds HX.out he
          have q0 : ((e2 : Int) != 0) = true := by simp; omega
          rcases hk with rfl | rfl | rfl
          all_goals
            clear he
            go_wp2_with fail
            exact bodyPost_ret (v := .bool true) (by simp [results, Tryd.results5, go_sem]) rfl ⟨rfl, HST8.out.be⟩
end Go.Proofs.YtkclhfoeimbikaaDoor.hd
