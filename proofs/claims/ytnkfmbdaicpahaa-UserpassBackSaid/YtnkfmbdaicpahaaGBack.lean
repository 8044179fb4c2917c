/-
  Given for the seat's laws: UserpassBack at any texts and bytes. No condition.
-/
import Derived.Test.YtnkfmbdaicpahaaGTakes
namespace Go.Proofs.Ytnkfmbdaicpahaa.gr
open Go.RowKit mem
set_option linter.unusedVariables false

theorem S_L (s : ByteArray) : S (L s) = s := S_data s
theorem L_S (l : Str) : L (S l) = l := S_list l
theorem own_any_ok {w : World} {B : Nat} {A : Option Addr} {n c : Nat} {l : Str} (h : w.ownsRow B 5 1 (.slice A n c) l.length (B8 (ints l))) (hn : l.length = n) : Spell w (fun g => g < w.heap.size) A n c l := by
  subst hn
  exact (own_spell h).weak fun g hg => hg.2.1

set_option maxHeartbeats 8000000 in
set_option maxRecDepth 100000 in
theorem back_walk {w : World} (s t : ByteArray) {A : Option Addr} {n c : Nat} {bs : List Int} (hs0 : Src w (fun g => g < w.heap.size) A n c bs) : Calls Try.prog 5 #[.string s, .string t, .slice A n c] w (True_ w) := by
  obtain ⟨b, rfl⟩ := ints_of hs0.rng
  have hs : Spell w (fun g => g < w.heap.size) A n c b := hs0
  have hbl := spell_len hs
  have HAW := Bx.mk (awake_any w)
  by_cases l1 : 300 < s.size
  · have l1' : (300 : Int) < (s.size : Int) := by omega
    clear hs hs0 hbl
    go_enter Try.func5, Try.ntmps5
    go_wp2_with fail
    refine HAW.out.mono ?_
    rintro e w1 ⟨rfl, hb1⟩
    have HB1 := Bx.mk hb1
    clear hb1
    go_wp2_with fail
    go_ret
    exact ⟨rfl, HB1.out⟩
  have l1' : ¬ (300 : Int) < (s.size : Int) := by omega
  by_cases l2 : 300 < t.size
  · have l2' : (300 : Int) < (t.size : Int) := by omega
    clear hs hs0 hbl
    go_enter Try.func5, Try.ntmps5
    go_wp2_with fail
    refine HAW.out.mono ?_
    rintro e w1 ⟨rfl, hb1⟩
    have HB1 := Bx.mk hb1
    clear hb1
    go_wp2_with fail
    go_ret
    exact ⟨rfl, HB1.out⟩
  have l2' : ¬ (300 : Int) < (t.size : Int) := by omega
  by_cases l3 : 600 < n
  · have l3' : (600 : Int) < (n : Int) := by omega
    clear hs hs0 hbl
    go_enter Try.func5, Try.ntmps5
    go_wp2_with fail
    refine HAW.out.mono ?_
    rintro e w1 ⟨rfl, hb1⟩
    have HB1 := Bx.mk hb1
    clear hb1
    go_wp2_with fail
    go_ret
    exact ⟨rfl, HB1.out⟩
  have l3' : ¬ (600 : Int) < (n : Int) := by omega
  have HS := Bx.mk hs
  have HBL := Bx.mk hbl
  have hn6 : n ≤ 600 := by omega
  clear hs hs0 hbl l1 l2 l3
  have key : ∀ w7 : World, Below w.heap.size w w7 → Calls Try.prog 7 #[.slice A n c] w7 (TakeTo (tk b) w7) := fun w7 hb => take_any (HS.out.below hb (fun g hg => hg)) (fun g hg => Nat.lt_of_lt_of_le hg hb.size) (by omega)
  have KEY := Bx.mk key
  clear key
  by_cases f1 : 1 ≤ s.size
  · have f1' : (1 : Int) ≤ (s.size : Int) := by omega
    by_cases f2 : s.size ≤ 255
    · have f2' : (s.size : Int) ≤ 255 := by omega
      have fs : fit s = true := by unfold fit; simp [f1, f2]
      by_cases f3 : 1 ≤ t.size
      · have f3' : (1 : Int) ≤ (t.size : Int) := by omega
        by_cases f4 : t.size ≤ 255
        · have f4' : (t.size : Int) ≤ 255 := by omega
          have ft : fit t = true := by unfold fit; simp [f3, f4]
          have HP := Bx.mk (fun w => print_good fs ft w)
          have o1 := fit_t.1 fs
          have o2 := fit_t.1 ft
          have hl : (pr (L s) (L t)).length = 3 + s.size + t.size := by rw [pr_len, L_len, L_len]
          have htp := tk_pr (r := b) o1 o2
          rw [L_len, L_len] at htp
          have HTP := Bx.mk htp
          have HL := Bx.mk hl
          clear fs ft o1 o2 hl htp f1 f2 f3 f4
          go_enter Try.func5, Try.ntmps5
          go_wp2_with fail
          refine HAW.out.mono ?_
          rintro e w1 ⟨rfl, hb1⟩
          have HB1 := Bx.mk hb1
          clear hb1
          go_wp2_with fail
          refine (HP.out _).mono ?_
          rintro e w2 ⟨A2, c2, rfl, hm2⟩
          obtain ⟨k, hk⟩ : ∃ k, k = 3 + s.size + t.size := ⟨_, rfl⟩
          rw [← hk] at hm2 ⊢
          have hk2 : k ≤ 1000 := by omega
          have hl : (pr (L s) (L t)).length = k := by rw [HL.out, hk]
          have hs2 : Spell w2 (fun g => g < w2.heap.size) A2 k c2 (pr (L s) (L t)) := made_spell hm2 hl
          obtain ⟨A3, c3, w3, happ3, hm3⟩ := mine hs2 (fun g hg => hg) (by omega)
          have hm3' := hm3.since hm2.below
          have hm3'' := hm3'.since HB1.out
          subst hl
          obtain ⟨A4, c4, w4, happ4, hm4⟩ := hm3''.app (Below.refl _ _) (HS.out.below hm3''.below (fun g hg => hg)) (by omega)
          generalize hl : (pr (L s) (L t)).length = k at *
          have hT := take_as (n := k + n) (made_spell hm4 (by rw [List.length_append, hl, HBL.out])) (fun g hg => hg) (by omega) HTP.out
          unfold TakeAs at hT
          rw [← hk, S_L, S_L] at hT
          have HT := Bx.mk hT
          clear hT
          have HAp3 := Bx.mk happ3
          have HAp4 := Bx.mk happ4
          have HB4 := Bx.mk hm4.below
          have HKK := Bx.mk hk
          clear happ3 happ4 hm2 hs2 hm3 hm3' hm3'' hm4 hl hk HL HTP
          go_wp2_with (at_builtin; first
            | (refine wpList_append_eq rfl _ _ rfl rfl rfl rfl HAp3.out ?_; clear HAp3)
            | (refine wpList_append_eq rfl _ _ rfl rfl rfl rfl HAp4.out ?_; clear HAp4))
          go_wp2_with fail
          refine HT.out.mono ?_
          rintro e w5 ⟨rfl, hb5⟩
          have HB5 := Bx.mk (HB4.out.trans (hb5.mono HB4.out.size))
          clear hb5 HT HB4 HB1
          go_wp2_with fail
          refine (KEY.out _ HB5.out).mono ?_
          rintro e w7 ⟨rfl, hb7⟩
          have HB7 := Bx.mk (HB5.out.trans (hb7.mono HB5.out.size))
          clear hb7 KEY
          rcases htk : tk b with ⟨u, p, k, q⟩
          rcases tk_kinds b with ⟨u', p', n', h'⟩ | h' | h'
          · rw [h'] at htk
            cases htk
            obtain ⟨ou, op, hk, r, hbr⟩ := tk_inv h'
            have hkl : k ≤ n := by
              have h1 := HBL.out
              rw [hbr] at h1
              simp [pr_len] at h1
              omega
            have hfu : fit (S u) = true := fit_t.2 (by rw [L_S]; exact ou)
            have hfp : fit (S p) = true := fit_t.2 (by rw [L_S]; exact op)
            have hpr := print_good hfu hfp w7
            rw [L_S, L_S, S_size, S_size, ← hk] at hpr
            have HP := Bx.mk hpr
            have hbs := HS.out.below HB7.out (fun g hg => hg)
            have hk3 : 3 ≤ k := by omega
            obtain ⟨g, off, x0, hA, hg, _⟩ := hbs.cell (i := 0) (by omega)
            cases hA
            have hsk := Bx.mk (hbs.takeN k hkl)
            have htl : b.take k = pr u p := by rw [hbr, List.take_left' (by rw [pr_len, hk])]
            have HTL := Bx.mk htl
            have HKL := Bx.mk (show (pr u p).length = k by rw [pr_len, hk])
            have hcap := HS.out.cap
            have hkl' : (k : Int) ≤ (n : Int) := by omega
            have hkc : k ≤ c := by omega
            clear hpr htl hbr hbs hk h' hfu hfp ou op
            go_wp2_with fail
            refine HP.out.mono ?_
            rintro e w8 ⟨A8, c8, rfl, hm8⟩
            have q1 : ∀ nq, (convert 22 9 (.slice A8 k c8)).run Try.prog (w8.drewN nq) = .ok (.string (S (pr u p))) (w8.drewN nq) := fun nq => spell_str ((made_spell hm8 HKL.out).still (Still.drewN w8 nq))
            have q2 : ∀ nq, (convert 22 9 (.slice (some ⟨g, off, none⟩) k c)).run Try.prog (w8.drewN nq) = .ok (.string (S (pr u p))) (w8.drewN nq) := fun nq => by
              have h1 := hsk.out.below hm8.below (fun g hg => Nat.lt_of_lt_of_le hg HB7.out.size)
              rw [ints_take, HTL.out] at h1
              exact spell_str (h1.still (Still.drewN w8 nq))
            have HB8 := Bx.mk (HB7.out.trans (hm8.below.mono HB7.out.size))
            have hpe := (str_eq (pr u p)).1
            clear hm8 HP hsk HTL HKL
            go_wp2_with fail
            go_quiet (fail)
            go_wp2_with fail
            go_ret
            exact ⟨rfl, below_drewN HB8.out _⟩
          · rw [h'] at htk
            cases htk
            go_wp2_with fail
            go_ret
            exact ⟨rfl, HB7.out⟩
          · rw [h'] at htk
            cases htk
            go_wp2_with fail
            go_ret
            exact ⟨rfl, HB7.out⟩
        · have f4' : ¬ (t.size : Int) ≤ 255 := by omega
          have ft : fit t = false := by unfold fit; simp [f4]
          clear f1 f2 f3 f4
          go_enter Try.func5, Try.ntmps5
          go_wp2_with fail
          refine HAW.out.mono ?_
          rintro e w1 ⟨rfl, hb1⟩
          have HB1 := Bx.mk hb1
          clear hb1
          go_wp2_with fail
          refine (print_bad (by rw [ft]; simp) _).mono ?_
          rintro e w2 ⟨A2, c2, rfl, hm2⟩
          have HB2 := Bx.mk (HB1.out.trans (hm2.below.mono HB1.out.size))
          clear hm2
          go_wp2_with fail
          refine (KEY.out _ HB2.out).mono ?_
          rintro e w7 ⟨rfl, hb7⟩
          have HB7 := Bx.mk (HB2.out.trans (hb7.mono HB2.out.size))
          clear hb7 KEY
          rcases htk : tk b with ⟨u, p, k, q⟩
          rcases tk_kinds b with ⟨u', p', n', h'⟩ | h' | h'
          · rw [h'] at htk
            cases htk
            obtain ⟨ou, op, hk, r, hbr⟩ := tk_inv h'
            have hkl : k ≤ n := by
              have h1 := HBL.out
              rw [hbr] at h1
              simp [pr_len] at h1
              omega
            have hfu : fit (S u) = true := fit_t.2 (by rw [L_S]; exact ou)
            have hfp : fit (S p) = true := fit_t.2 (by rw [L_S]; exact op)
            have hpr := print_good hfu hfp w7
            rw [L_S, L_S, S_size, S_size, ← hk] at hpr
            have HP := Bx.mk hpr
            have hbs := HS.out.below HB7.out (fun g hg => hg)
            have hk3 : 3 ≤ k := by omega
            obtain ⟨g, off, x0, hA, hg, _⟩ := hbs.cell (i := 0) (by omega)
            cases hA
            have hsk := Bx.mk (hbs.takeN k hkl)
            have htl : b.take k = pr u p := by rw [hbr, List.take_left' (by rw [pr_len, hk])]
            have HTL := Bx.mk htl
            have HKL := Bx.mk (show (pr u p).length = k by rw [pr_len, hk])
            have hcap := HS.out.cap
            have hkl' : (k : Int) ≤ (n : Int) := by omega
            have hkc : k ≤ c := by omega
            clear hpr htl hbr hbs hk h' hfu hfp ou op
            go_wp2_with fail
            refine HP.out.mono ?_
            rintro e w8 ⟨A8, c8, rfl, hm8⟩
            have q1 : ∀ nq, (convert 22 9 (.slice A8 k c8)).run Try.prog (w8.drewN nq) = .ok (.string (S (pr u p))) (w8.drewN nq) := fun nq => spell_str ((made_spell hm8 HKL.out).still (Still.drewN w8 nq))
            have q2 : ∀ nq, (convert 22 9 (.slice (some ⟨g, off, none⟩) k c)).run Try.prog (w8.drewN nq) = .ok (.string (S (pr u p))) (w8.drewN nq) := fun nq => by
              have h1 := hsk.out.below hm8.below (fun g hg => Nat.lt_of_lt_of_le hg HB7.out.size)
              rw [ints_take, HTL.out] at h1
              exact spell_str (h1.still (Still.drewN w8 nq))
            have HB8 := Bx.mk (HB7.out.trans (hm8.below.mono HB7.out.size))
            have hpe := (str_eq (pr u p)).1
            clear hm8 HP hsk HTL HKL
            go_wp2_with fail
            go_quiet (fail)
            go_wp2_with fail
            go_ret
            exact ⟨rfl, below_drewN HB8.out _⟩
          · rw [h'] at htk
            cases htk
            go_wp2_with fail
            go_ret
            exact ⟨rfl, HB7.out⟩
          · rw [h'] at htk
            cases htk
            go_wp2_with fail
            go_ret
            exact ⟨rfl, HB7.out⟩
      · have f3' : ¬ (1 : Int) ≤ (t.size : Int) := by omega
        have ft : fit t = false := by unfold fit; simp [f3]
        clear f1 f2 f3
        go_enter Try.func5, Try.ntmps5
        go_wp2_with fail
        refine HAW.out.mono ?_
        rintro e w1 ⟨rfl, hb1⟩
        have HB1 := Bx.mk hb1
        clear hb1
        go_wp2_with fail
        refine (print_bad (by rw [ft]; simp) _).mono ?_
        rintro e w2 ⟨A2, c2, rfl, hm2⟩
        have HB2 := Bx.mk (HB1.out.trans (hm2.below.mono HB1.out.size))
        clear hm2
        go_wp2_with fail
        refine (KEY.out _ HB2.out).mono ?_
        rintro e w7 ⟨rfl, hb7⟩
        have HB7 := Bx.mk (HB2.out.trans (hb7.mono HB2.out.size))
        clear hb7 KEY
        rcases htk : tk b with ⟨u, p, k, q⟩
        rcases tk_kinds b with ⟨u', p', n', h'⟩ | h' | h'
        · rw [h'] at htk
          cases htk
          obtain ⟨ou, op, hk, r, hbr⟩ := tk_inv h'
          have hkl : k ≤ n := by
            have h1 := HBL.out
            rw [hbr] at h1
            simp [pr_len] at h1
            omega
          have hfu : fit (S u) = true := fit_t.2 (by rw [L_S]; exact ou)
          have hfp : fit (S p) = true := fit_t.2 (by rw [L_S]; exact op)
          have hpr := print_good hfu hfp w7
          rw [L_S, L_S, S_size, S_size, ← hk] at hpr
          have HP := Bx.mk hpr
          have hbs := HS.out.below HB7.out (fun g hg => hg)
          have hk3 : 3 ≤ k := by omega
          obtain ⟨g, off, x0, hA, hg, _⟩ := hbs.cell (i := 0) (by omega)
          cases hA
          have hsk := Bx.mk (hbs.takeN k hkl)
          have htl : b.take k = pr u p := by rw [hbr, List.take_left' (by rw [pr_len, hk])]
          have HTL := Bx.mk htl
          have HKL := Bx.mk (show (pr u p).length = k by rw [pr_len, hk])
          have hcap := HS.out.cap
          have hkl' : (k : Int) ≤ (n : Int) := by omega
          have hkc : k ≤ c := by omega
          clear hpr htl hbr hbs hk h' hfu hfp ou op
          go_wp2_with fail
          refine HP.out.mono ?_
          rintro e w8 ⟨A8, c8, rfl, hm8⟩
          have q1 : ∀ nq, (convert 22 9 (.slice A8 k c8)).run Try.prog (w8.drewN nq) = .ok (.string (S (pr u p))) (w8.drewN nq) := fun nq => spell_str ((made_spell hm8 HKL.out).still (Still.drewN w8 nq))
          have q2 : ∀ nq, (convert 22 9 (.slice (some ⟨g, off, none⟩) k c)).run Try.prog (w8.drewN nq) = .ok (.string (S (pr u p))) (w8.drewN nq) := fun nq => by
            have h1 := hsk.out.below hm8.below (fun g hg => Nat.lt_of_lt_of_le hg HB7.out.size)
            rw [ints_take, HTL.out] at h1
            exact spell_str (h1.still (Still.drewN w8 nq))
          have HB8 := Bx.mk (HB7.out.trans (hm8.below.mono HB7.out.size))
          have hpe := (str_eq (pr u p)).1
          clear hm8 HP hsk HTL HKL
          go_wp2_with fail
          go_quiet (fail)
          go_wp2_with fail
          go_ret
          exact ⟨rfl, below_drewN HB8.out _⟩
        · rw [h'] at htk
          cases htk
          go_wp2_with fail
          go_ret
          exact ⟨rfl, HB7.out⟩
        · rw [h'] at htk
          cases htk
          go_wp2_with fail
          go_ret
          exact ⟨rfl, HB7.out⟩
    · have f2' : ¬ (s.size : Int) ≤ 255 := by omega
      have ft : fit s = false := by unfold fit; simp [f2]
      clear f1 f2
      go_enter Try.func5, Try.ntmps5
      go_wp2_with fail
      refine HAW.out.mono ?_
      rintro e w1 ⟨rfl, hb1⟩
      have HB1 := Bx.mk hb1
      clear hb1
      go_wp2_with fail
      refine (print_bad (by rw [ft]; simp) _).mono ?_
      rintro e w2 ⟨A2, c2, rfl, hm2⟩
      have HB2 := Bx.mk (HB1.out.trans (hm2.below.mono HB1.out.size))
      clear hm2
      go_wp2_with fail
      refine (KEY.out _ HB2.out).mono ?_
      rintro e w7 ⟨rfl, hb7⟩
      have HB7 := Bx.mk (HB2.out.trans (hb7.mono HB2.out.size))
      clear hb7 KEY
      rcases htk : tk b with ⟨u, p, k, q⟩
      rcases tk_kinds b with ⟨u', p', n', h'⟩ | h' | h'
      · rw [h'] at htk
        cases htk
        obtain ⟨ou, op, hk, r, hbr⟩ := tk_inv h'
        have hkl : k ≤ n := by
          have h1 := HBL.out
          rw [hbr] at h1
          simp [pr_len] at h1
          omega
        have hfu : fit (S u) = true := fit_t.2 (by rw [L_S]; exact ou)
        have hfp : fit (S p) = true := fit_t.2 (by rw [L_S]; exact op)
        have hpr := print_good hfu hfp w7
        rw [L_S, L_S, S_size, S_size, ← hk] at hpr
        have HP := Bx.mk hpr
        have hbs := HS.out.below HB7.out (fun g hg => hg)
        have hk3 : 3 ≤ k := by omega
        obtain ⟨g, off, x0, hA, hg, _⟩ := hbs.cell (i := 0) (by omega)
        cases hA
        have hsk := Bx.mk (hbs.takeN k hkl)
        have htl : b.take k = pr u p := by rw [hbr, List.take_left' (by rw [pr_len, hk])]
        have HTL := Bx.mk htl
        have HKL := Bx.mk (show (pr u p).length = k by rw [pr_len, hk])
        have hcap := HS.out.cap
        have hkl' : (k : Int) ≤ (n : Int) := by omega
        have hkc : k ≤ c := by omega
        clear hpr htl hbr hbs hk h' hfu hfp ou op
        go_wp2_with fail
        refine HP.out.mono ?_
        rintro e w8 ⟨A8, c8, rfl, hm8⟩
        have q1 : ∀ nq, (convert 22 9 (.slice A8 k c8)).run Try.prog (w8.drewN nq) = .ok (.string (S (pr u p))) (w8.drewN nq) := fun nq => spell_str ((made_spell hm8 HKL.out).still (Still.drewN w8 nq))
        have q2 : ∀ nq, (convert 22 9 (.slice (some ⟨g, off, none⟩) k c)).run Try.prog (w8.drewN nq) = .ok (.string (S (pr u p))) (w8.drewN nq) := fun nq => by
          have h1 := hsk.out.below hm8.below (fun g hg => Nat.lt_of_lt_of_le hg HB7.out.size)
          rw [ints_take, HTL.out] at h1
          exact spell_str (h1.still (Still.drewN w8 nq))
        have HB8 := Bx.mk (HB7.out.trans (hm8.below.mono HB7.out.size))
        have hpe := (str_eq (pr u p)).1
        clear hm8 HP hsk HTL HKL
        go_wp2_with fail
        go_quiet (fail)
        go_wp2_with fail
        go_ret
        exact ⟨rfl, below_drewN HB8.out _⟩
      · rw [h'] at htk
        cases htk
        go_wp2_with fail
        go_ret
        exact ⟨rfl, HB7.out⟩
      · rw [h'] at htk
        cases htk
        go_wp2_with fail
        go_ret
        exact ⟨rfl, HB7.out⟩
  · have f1' : ¬ (1 : Int) ≤ (s.size : Int) := by omega
    have ft : fit s = false := by unfold fit; simp [f1]
    clear f1
    go_enter Try.func5, Try.ntmps5
    go_wp2_with fail
    refine HAW.out.mono ?_
    rintro e w1 ⟨rfl, hb1⟩
    have HB1 := Bx.mk hb1
    clear hb1
    go_wp2_with fail
    refine (print_bad (by rw [ft]; simp) _).mono ?_
    rintro e w2 ⟨A2, c2, rfl, hm2⟩
    have HB2 := Bx.mk (HB1.out.trans (hm2.below.mono HB1.out.size))
    clear hm2
    go_wp2_with fail
    refine (KEY.out _ HB2.out).mono ?_
    rintro e w7 ⟨rfl, hb7⟩
    have HB7 := Bx.mk (HB2.out.trans (hb7.mono HB2.out.size))
    clear hb7 KEY
    rcases htk : tk b with ⟨u, p, k, q⟩
    rcases tk_kinds b with ⟨u', p', n', h'⟩ | h' | h'
    · rw [h'] at htk
      cases htk
      obtain ⟨ou, op, hk, r, hbr⟩ := tk_inv h'
      have hkl : k ≤ n := by
        have h1 := HBL.out
        rw [hbr] at h1
        simp [pr_len] at h1
        omega
      have hfu : fit (S u) = true := fit_t.2 (by rw [L_S]; exact ou)
      have hfp : fit (S p) = true := fit_t.2 (by rw [L_S]; exact op)
      have hpr := print_good hfu hfp w7
      rw [L_S, L_S, S_size, S_size, ← hk] at hpr
      have HP := Bx.mk hpr
      have hbs := HS.out.below HB7.out (fun g hg => hg)
      have hk3 : 3 ≤ k := by omega
      obtain ⟨g, off, x0, hA, hg, _⟩ := hbs.cell (i := 0) (by omega)
      cases hA
      have hsk := Bx.mk (hbs.takeN k hkl)
      have htl : b.take k = pr u p := by rw [hbr, List.take_left' (by rw [pr_len, hk])]
      have HTL := Bx.mk htl
      have HKL := Bx.mk (show (pr u p).length = k by rw [pr_len, hk])
      have hcap := HS.out.cap
      have hkl' : (k : Int) ≤ (n : Int) := by omega
      have hkc : k ≤ c := by omega
      clear hpr htl hbr hbs hk h' hfu hfp ou op
      go_wp2_with fail
      refine HP.out.mono ?_
      rintro e w8 ⟨A8, c8, rfl, hm8⟩
      have q1 : ∀ nq, (convert 22 9 (.slice A8 k c8)).run Try.prog (w8.drewN nq) = .ok (.string (S (pr u p))) (w8.drewN nq) := fun nq => spell_str ((made_spell hm8 HKL.out).still (Still.drewN w8 nq))
      have q2 : ∀ nq, (convert 22 9 (.slice (some ⟨g, off, none⟩) k c)).run Try.prog (w8.drewN nq) = .ok (.string (S (pr u p))) (w8.drewN nq) := fun nq => by
        have h1 := hsk.out.below hm8.below (fun g hg => Nat.lt_of_lt_of_le hg HB7.out.size)
        rw [ints_take, HTL.out] at h1
        exact spell_str (h1.still (Still.drewN w8 nq))
      have HB8 := Bx.mk (HB7.out.trans (hm8.below.mono HB7.out.size))
      have hpe := (str_eq (pr u p)).1
      clear hm8 HP hsk HTL HKL
      go_wp2_with fail
      go_quiet (fail)
      go_wp2_with fail
      go_ret
      exact ⟨rfl, below_drewN HB8.out _⟩
    · rw [h'] at htk
      cases htk
      go_wp2_with fail
      go_ret
      exact ⟨rfl, HB7.out⟩
    · rw [h'] at htk
      cases htk
      go_wp2_with fail
      go_ret
      exact ⟨rfl, HB7.out⟩
end Go.Proofs.Ytnkfmbdaicpahaa.gr
