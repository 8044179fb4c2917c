/-
  Given for 'Rows.ProbeApartSaid': the law's walk: it returns true at every input, and turns nothing that was there. No condition.
-/
import Derived.Test.YtamcmhadodgalaaQApart0
namespace Go.Proofs.Ytamcmhadodgalaa.pl
open Go.RowKit Go.Shelf mem find pb
set_option linter.unusedVariables false

set_option maxRecDepth 100000 in
set_option maxHeartbeats 16000000 in
theorem apart_in (ev a b : Int) (A B : Option Addr) (c c' : Nat) (l k : List Bool) (w : World) (hl : l.length ≤ 200) (hm : k.length ≤ maxLen) (hr : RowAt w (fun g => g < w.heap.size) A (BV l)) (hr2 : RowAt w (fun g => g < w.heap.size) B (BV k)) (e1 : 1 ≤ ev) (e2 : ev ≤ 1000) (a1 : 1 ≤ a) (b1 : a < b) (b2 : b ≤ 1099511627775) :
    Calls Try.prog 6 #[.int .i64 ev, .int .i64 a, .int .i64 b, .slice A l.length c, .slice B k.length c'] w (Tru w) := by
  have HAW := Bx.mk (awake_any w)
  have HL := Bx.mk hr
  have HK := Bx.mk hr2
  obtain ⟨n, hn⟩ : ∃ n, l.length = n := ⟨_, rfl⟩
  obtain ⟨m, hm'⟩ : ∃ m, k.length = m := ⟨_, rfl⟩
  rw [hn] at hl ⊢
  rw [hm'] at hm ⊢
  have HN := Bx.mk hn
  have HM := Bx.mk hm'
  clear hn hr hr2 hm'
  have a2 : a ≤ 1099511627775 := by omega
  have b0 : 1 ≤ b := by omega
  have hne : (b == a) = false := by simp; omega
  unfold maxLen at hm
  go_enter Try.func6, Try.ntmps6
  go_wp2_with (go_at_call 21; refine HAW.out.mono ?_; rintro e w1 ⟨rfl, hb⟩)
  have HNEW := Bx.mk (new_ok ev w1 e1 e2)
  have hst : ∀ w2, News w1 w1.heap.size ev w2 → St w (fun g => w1.heap.size ≤ g ∧ g < w2.heap.size) w1.heap.size ev [] w2 := fun w2 hn => St.made hb hn
  have HST := Bx.mk hst
  clear hb hst HAW
  generalize w1.heap.size = rp at HNEW HST
  refine HNEW.out.mono ?_
  rintro e w2 ⟨rfl, hn⟩
  obtain ⟨S1, H1⟩ : ∃ S1, Bx (St w S1 rp ev [] w2) := ⟨_, ⟨HST.out w2 hn⟩⟩
  clear hn HST HNEW
  go_wp2_with fail
  have HNEW := Bx.mk (new_ok ev w2 e1 e2)
  have hst : ∀ w3, News w2 w2.heap.size ev w3 → ∃ S2, St w S1 rp ev [] w3 ∧ St w S2 w2.heap.size ev [] w3 ∧ ∀ g, S1 g → S2 g → False := fun w3 hn =>
    ⟨fun g => w2.heap.size ≤ g ∧ g < w3.heap.size, H1.out.later hn.below, St.made H1.out.below hn, fun g e e' => by have := (H1.out.lt g e).2; omega⟩
  have HST := Bx.mk hst
  clear hst H1
  generalize w2.heap.size = rq at HNEW HST
  refine HNEW.out.mono ?_
  rintro e w3 ⟨rfl, hn⟩
  obtain ⟨S2, hp, hq, hdis⟩ := HST.out w3 hn
  have H2 := Bx.mk hp
  have H3 := Bx.mk hq
  have HD := Bx.mk hdis
  clear hn HST HNEW hp hq hdis
  go_wp2_with fail
  refine (add_ok H2.out.pn (key := a) (by simp) a1 a2 (by simp)).mono ?_
  rintro e w4 ⟨rfl, hd⟩
  have hs4 := two_did H2.out H3.out HD.out hd
  rw [ins_one] at hs4
  obtain ⟨S3, h4, h5, h6⟩ := hs4
  have H4 := Bx.mk h4
  have H5 := Bx.mk h5
  have H6 := Bx.mk h6
  clear hd h4 h5 h6 H2 H3 HD
  go_wp2_with fail
  refine (add_ok H4.out.pn (key := b) (by simp [idx]; omega) b0 b2 (by simp)).mono ?_
  rintro e w5 ⟨rfl, hd⟩
  have hs4 := two_did H4.out H5.out H6.out hd
  rw [ins_two b1] at hs4
  obtain ⟨S4, h4, h5, h6⟩ := hs4
  have H7 := Bx.mk h4
  have H8 := Bx.mk h5
  have H9 := Bx.mk h6
  clear hd h4 h5 h6 H4 H5 H6
  go_wp2_with fail
  refine (add_ok H8.out.pn (key := a) (by simp) a1 a2 (by simp)).mono ?_
  rintro e w6 ⟨rfl, hd⟩
  have hs4 := two_did H8.out H7.out (fun g e e' => H9.out g e' e) hd
  rw [ins_one] at hs4
  obtain ⟨S5, h4, h5, h6⟩ := hs4
  have h0 : Ap w rp rq ev a b w6 := ⟨S4, S5, _, _, h5, h4, fun g e e' => h6 g e' e⟩
  have H0 := Bx.mk h0
  clear hd h4 h5 h6 H7 H8 H9 h0
  go_wp2_with fail
  go_loopw [15] (fun s15 wr => ∃ i : Nat, i ≤ n ∧ s15 = .int .i64 (i : Int) ∧ Bx (Ap w rp rq ev a b wr)) (fun s15 _ => n - (intOf s15).toNat)
  case atStart => exact ⟨0, by omega, rfl, H0⟩
  case round =>
    clear H0
    obtain ⟨i, hi, rfl, hinv⟩ := hrel
    have hbel : Below w.heap.size w wr := by obtain ⟨S, T, na, nb, hS, _⟩ := hinv.out.ex; exact hS.below
    by_cases hlt : i < n
    · obtain ⟨o, ho⟩ : ∃ o, l[i]? = some o := ⟨_, List.getElem?_eq_getElem (by rw [HN.out]; exact hlt)⟩
      obtain ⟨g, off, rfl, hg, hc⟩ := HL.out.cell (BV_get ho)
      have cb : wr.cell? ⟨g, off + i, none⟩ = some (.bool o) := (hbel.cell (p := ⟨g, off + i, none⟩) hg).trans hc
      have hii : (i : Int) < (n : Int) := by omega
      have hi0 : (0 : Int) ≤ (i : Int) := by omega
      clear ho hc hg
      have HBEL := Bx.mk hbel
      clear hbel
      cases o with
      | false =>
        by_cases htw : i < m ∧ k[i]? = some true
        · obtain ⟨him, hkt⟩ := htw
          obtain ⟨g2, off2, rfl, hg2, hc2⟩ := HK.out.cell (BV_get hkt)
          have cb2 : wr.cell? ⟨g2, off2 + i, none⟩ = some (.bool true) := ((HBEL.out).cell (p := ⟨g2, off2 + i, none⟩) hg2).trans hc2
          have him2 : (i : Int) < (m : Int) := by omega
          obtain ⟨A3, c3, W3, q3, B3⟩ := (Bld.start wr).both1 (by simp) b
          simp only [List.length_nil, List.nil_append, Nat.zero_add] at q3 B3
          have HA3 := Bx.mk q3
          clear q3 hkt hc2 hg2
          have HR := Bx.mk (ap_rounds (now := (i : Int)) hinv.out B3 rfl rfl (show a ≠ b by omega) (by simp) (by simp) (by simp [wants]; omega) hi0 (by omega))
          clear hinv B3
          go_wp2_with (at_builtin; first | (refine wpList_append_eq rfl _ _ 31 31 rfl rfl rfl rfl HA3.out ?_; clear HA3))
          refine HR.out.mono ?_
          rintro e W4 ⟨dx, dy, nx, ny, Ax, cx, hpair, rfl, h2⟩
          have H2 := Bx.mk h2
          clear h2 HR
          rcases hpair with ⟨rfl, rfl, rfl, rfl⟩ | ⟨rfl, rfl, rfl, rfl⟩ | ⟨rfl, rfl, rfl, rfl⟩ | ⟨rfl, rfl, rfl, rfl⟩
          · go_wp2_with fail
            refine H2.out.mono ?_
            rintro e W5 ⟨Ay, cy, rfl, rx, hap⟩
            have HAP := Bx.mk hap
            clear rx hap H2
            go_wp2_with fail
            go_roundw
            case rel => exact ⟨i + 1, by omega, by go_num, HAP⟩
            case measure => simp [intOf]; omega
          · go_wp2_with fail
            refine H2.out.mono ?_
            rintro e W5 ⟨Ay, cy, rfl, rx, hap⟩
            obtain ⟨gx, ox, rfl, _, kx⟩ := rx.cell (j := 0) (v := .int .i64 b) rfl
            rw [Nat.add_zero] at kx
            have HAP := Bx.mk hap
            clear rx hap H2
            go_wp2_with fail
            go_roundw
            case rel => exact ⟨i + 1, by omega, by go_num, HAP⟩
            case measure => simp [intOf]; omega
          · go_wp2_with fail
            refine H2.out.mono ?_
            rintro e W5 ⟨Ay, cy, rfl, rx, hap⟩
            obtain ⟨gx, ox, rfl, _, kx⟩ := rx.cell (j := 0) (v := .int .i64 a) rfl
            rw [Nat.add_zero] at kx
            have HAP := Bx.mk hap
            clear rx hap H2
            go_wp2_with fail
            go_roundw
            case rel => exact ⟨i + 1, by omega, by go_num, HAP⟩
            case measure => simp [intOf]; omega
          · go_wp2_with fail
            refine H2.out.mono ?_
            rintro e W5 ⟨Ay, cy, rfl, rx, hap⟩
            obtain ⟨gx, ox, rfl, _, kx⟩ := rx.cell (j := 0) (v := .int .i64 a) rfl
            rw [Nat.add_zero] at kx
            have HAP := Bx.mk hap
            clear rx hap H2
            go_wp2_with fail
            go_roundw
            case rel => exact ⟨i + 1, by omega, by go_num, HAP⟩
            case measure => simp [intOf]; omega

        · by_cases him : i < m
          · have hkf : k[i]? = some false := by
              obtain ⟨z, hz⟩ : ∃ z, k[i]? = some z := ⟨_, List.getElem?_eq_getElem (by rw [HM.out]; exact him)⟩
              cases z with
              | false => exact hz
              | true => exact absurd ⟨him, hz⟩ htw
            obtain ⟨g2, off2, rfl, hg2, hc2⟩ := HK.out.cell (BV_get hkf)
            have cb2 : wr.cell? ⟨g2, off2 + i, none⟩ = some (.bool false) := ((HBEL.out).cell (p := ⟨g2, off2 + i, none⟩) hg2).trans hc2
            have him2 : (i : Int) < (m : Int) := by omega
            clear hkf hc2 hg2 htw
            have HR := Bx.mk (ap_rounds (now := (i : Int)) hinv.out (Bld.start wr) rfl rfl (show a ≠ b by omega) (by simp) (by simp) (by simp [wants]) hi0 (by omega))
            clear hinv
            go_wp2_with fail
            refine HR.out.mono ?_
            rintro e W4 ⟨dx, dy, nx, ny, Ax, cx, hpair, rfl, h2⟩
            have H2 := Bx.mk h2
            clear h2 HR
            rcases hpair with ⟨rfl, rfl, rfl, rfl⟩ | ⟨rfl, rfl, rfl, rfl⟩ | ⟨rfl, rfl, rfl, rfl⟩ | ⟨rfl, rfl, rfl, rfl⟩
            · go_wp2_with fail
              refine H2.out.mono ?_
              rintro e W5 ⟨Ay, cy, rfl, rx, hap⟩
              have HAP := Bx.mk hap
              clear rx hap H2
              go_wp2_with fail
              go_roundw
              case rel => exact ⟨i + 1, by omega, by go_num, HAP⟩
              case measure => simp [intOf]; omega
            · go_wp2_with fail
              refine H2.out.mono ?_
              rintro e W5 ⟨Ay, cy, rfl, rx, hap⟩
              obtain ⟨gx, ox, rfl, _, kx⟩ := rx.cell (j := 0) (v := .int .i64 b) rfl
              rw [Nat.add_zero] at kx
              have HAP := Bx.mk hap
              clear rx hap H2
              go_wp2_with fail
              go_roundw
              case rel => exact ⟨i + 1, by omega, by go_num, HAP⟩
              case measure => simp [intOf]; omega
            · go_wp2_with fail
              refine H2.out.mono ?_
              rintro e W5 ⟨Ay, cy, rfl, rx, hap⟩
              obtain ⟨gx, ox, rfl, _, kx⟩ := rx.cell (j := 0) (v := .int .i64 a) rfl
              rw [Nat.add_zero] at kx
              have HAP := Bx.mk hap
              clear rx hap H2
              go_wp2_with fail
              go_roundw
              case rel => exact ⟨i + 1, by omega, by go_num, HAP⟩
              case measure => simp [intOf]; omega
            · go_wp2_with fail
              refine H2.out.mono ?_
              rintro e W5 ⟨Ay, cy, rfl, rx, hap⟩
              obtain ⟨gx, ox, rfl, _, kx⟩ := rx.cell (j := 0) (v := .int .i64 a) rfl
              rw [Nat.add_zero] at kx
              have HAP := Bx.mk hap
              clear rx hap H2
              go_wp2_with fail
              go_roundw
              case rel => exact ⟨i + 1, by omega, by go_num, HAP⟩
              case measure => simp [intOf]; omega

          · have him2 : ¬ (i : Int) < (m : Int) := by omega
            have him3 : decide ((i : Int) < (m : Int)) = false := by simp; omega
            have him4 : decide (i < m) = false := by simp; omega
            clear htw
            have HR := Bx.mk (ap_rounds (now := (i : Int)) hinv.out (Bld.start wr) rfl rfl (show a ≠ b by omega) (by simp) (by simp) (by simp [wants]) hi0 (by omega))
            clear hinv
            go_wp2_with fail
            refine HR.out.mono ?_
            rintro e W4 ⟨dx, dy, nx, ny, Ax, cx, hpair, rfl, h2⟩
            have H2 := Bx.mk h2
            clear h2 HR
            rcases hpair with ⟨rfl, rfl, rfl, rfl⟩ | ⟨rfl, rfl, rfl, rfl⟩ | ⟨rfl, rfl, rfl, rfl⟩ | ⟨rfl, rfl, rfl, rfl⟩
            · go_wp2_with fail
              refine H2.out.mono ?_
              rintro e W5 ⟨Ay, cy, rfl, rx, hap⟩
              have HAP := Bx.mk hap
              clear rx hap H2
              go_wp2_with fail
              go_roundw
              case rel => exact ⟨i + 1, by omega, by go_num, HAP⟩
              case measure => simp [intOf]; omega
            · go_wp2_with fail
              refine H2.out.mono ?_
              rintro e W5 ⟨Ay, cy, rfl, rx, hap⟩
              obtain ⟨gx, ox, rfl, _, kx⟩ := rx.cell (j := 0) (v := .int .i64 b) rfl
              rw [Nat.add_zero] at kx
              have HAP := Bx.mk hap
              clear rx hap H2
              go_wp2_with fail
              go_roundw
              case rel => exact ⟨i + 1, by omega, by go_num, HAP⟩
              case measure => simp [intOf]; omega
            · go_wp2_with fail
              refine H2.out.mono ?_
              rintro e W5 ⟨Ay, cy, rfl, rx, hap⟩
              obtain ⟨gx, ox, rfl, _, kx⟩ := rx.cell (j := 0) (v := .int .i64 a) rfl
              rw [Nat.add_zero] at kx
              have HAP := Bx.mk hap
              clear rx hap H2
              go_wp2_with fail
              go_roundw
              case rel => exact ⟨i + 1, by omega, by go_num, HAP⟩
              case measure => simp [intOf]; omega
            · go_wp2_with fail
              refine H2.out.mono ?_
              rintro e W5 ⟨Ay, cy, rfl, rx, hap⟩
              obtain ⟨gx, ox, rfl, _, kx⟩ := rx.cell (j := 0) (v := .int .i64 a) rfl
              rw [Nat.add_zero] at kx
              have HAP := Bx.mk hap
              clear rx hap H2
              go_wp2_with fail
              go_roundw
              case rel => exact ⟨i + 1, by omega, by go_num, HAP⟩
              case measure => simp [intOf]; omega

      | true =>
        obtain ⟨A1, c1, W1, q1, B1⟩ := (Bld.start wr).both1 (by simp) a
        obtain ⟨A2, c2, W2, q2, B2⟩ := B1.alone1 (by simp) a
        simp only [List.length_nil, List.nil_append, Nat.zero_add] at q1 q2 B1 B2
        have HA1 := Bx.mk q1
        have HA2 := Bx.mk q2
        have HB2 := Bx.mk B2
        clear q1 q2 B1 B2
        by_cases htw : i < m ∧ k[i]? = some true
        · obtain ⟨him, hkt⟩ := htw
          obtain ⟨g2, off2, rfl, hg2, hc2⟩ := HK.out.cell (BV_get hkt)
          have cb2 : W2.cell? ⟨g2, off2 + i, none⟩ = some (.bool true) := ((HBEL.out.trans (HB2.out.below.mono HBEL.out.size)).cell (p := ⟨g2, off2 + i, none⟩) hg2).trans hc2
          have him2 : (i : Int) < (m : Int) := by omega
          obtain ⟨A3, c3, W3, q3, B3⟩ := HB2.out.both1 (by simp) b
          simp only [List.length_nil, List.nil_append, Nat.zero_add, List.length_cons, List.cons_append] at q3 B3
          have HA3 := Bx.mk q3
          clear q3 hkt hc2 hg2
          have HR := Bx.mk (ap_rounds (now := (i : Int)) hinv.out B3 rfl rfl (show a ≠ b by omega) (by simp) (by simp) (by simp [wants]) hi0 (by omega))
          clear hinv B3
          go_wp2_with (at_builtin; first | (refine wpList_append_eq rfl _ _ 31 31 rfl rfl rfl rfl HA1.out ?_; clear HA1) | (refine wpList_append_eq rfl _ _ 31 31 rfl rfl rfl rfl HA2.out ?_; clear HA2) | (refine wpList_append_eq rfl _ _ 31 31 rfl rfl rfl rfl HA3.out ?_; clear HA3))
          refine HR.out.mono ?_
          rintro e W4 ⟨dx, dy, nx, ny, Ax, cx, hpair, rfl, h2⟩
          have H2 := Bx.mk h2
          clear h2 HR
          rcases hpair with ⟨rfl, rfl, rfl, rfl⟩ | ⟨rfl, rfl, rfl, rfl⟩ | ⟨rfl, rfl, rfl, rfl⟩ | ⟨rfl, rfl, rfl, rfl⟩
          · go_wp2_with fail
            refine H2.out.mono ?_
            rintro e W5 ⟨Ay, cy, rfl, rx, hap⟩
            have HAP := Bx.mk hap
            clear rx hap H2
            go_wp2_with fail
            go_roundw
            case rel => exact ⟨i + 1, by omega, by go_num, HAP⟩
            case measure => simp [intOf]; omega
          · go_wp2_with fail
            refine H2.out.mono ?_
            rintro e W5 ⟨Ay, cy, rfl, rx, hap⟩
            obtain ⟨gx, ox, rfl, _, kx⟩ := rx.cell (j := 0) (v := .int .i64 b) rfl
            rw [Nat.add_zero] at kx
            have HAP := Bx.mk hap
            clear rx hap H2
            go_wp2_with fail
            go_roundw
            case rel => exact ⟨i + 1, by omega, by go_num, HAP⟩
            case measure => simp [intOf]; omega
          · go_wp2_with fail
            refine H2.out.mono ?_
            rintro e W5 ⟨Ay, cy, rfl, rx, hap⟩
            obtain ⟨gx, ox, rfl, _, kx⟩ := rx.cell (j := 0) (v := .int .i64 a) rfl
            rw [Nat.add_zero] at kx
            have HAP := Bx.mk hap
            clear rx hap H2
            go_wp2_with fail
            go_roundw
            case rel => exact ⟨i + 1, by omega, by go_num, HAP⟩
            case measure => simp [intOf]; omega
          · go_wp2_with fail
            refine H2.out.mono ?_
            rintro e W5 ⟨Ay, cy, rfl, rx, hap⟩
            obtain ⟨gx, ox, rfl, _, kx⟩ := rx.cell (j := 0) (v := .int .i64 a) rfl
            rw [Nat.add_zero] at kx
            have HAP := Bx.mk hap
            clear rx hap H2
            go_wp2_with fail
            go_roundw
            case rel => exact ⟨i + 1, by omega, by go_num, HAP⟩
            case measure => simp [intOf]; omega

        · by_cases him : i < m
          · have hkf : k[i]? = some false := by
              obtain ⟨z, hz⟩ : ∃ z, k[i]? = some z := ⟨_, List.getElem?_eq_getElem (by rw [HM.out]; exact him)⟩
              cases z with
              | false => exact hz
              | true => exact absurd ⟨him, hz⟩ htw
            obtain ⟨g2, off2, rfl, hg2, hc2⟩ := HK.out.cell (BV_get hkf)
            have cb2 : W2.cell? ⟨g2, off2 + i, none⟩ = some (.bool false) := ((HBEL.out.trans (HB2.out.below.mono HBEL.out.size)).cell (p := ⟨g2, off2 + i, none⟩) hg2).trans hc2
            have him2 : (i : Int) < (m : Int) := by omega
            clear hkf hc2 hg2 htw
            have HR := Bx.mk (ap_rounds (now := (i : Int)) hinv.out HB2.out rfl rfl (show a ≠ b by omega) (by simp) (by simp) (by simp [wants]) hi0 (by omega))
            clear hinv
            go_wp2_with (at_builtin; first | (refine wpList_append_eq rfl _ _ 31 31 rfl rfl rfl rfl HA1.out ?_; clear HA1) | (refine wpList_append_eq rfl _ _ 31 31 rfl rfl rfl rfl HA2.out ?_; clear HA2))
            refine HR.out.mono ?_
            rintro e W4 ⟨dx, dy, nx, ny, Ax, cx, hpair, rfl, h2⟩
            have H2 := Bx.mk h2
            clear h2 HR
            rcases hpair with ⟨rfl, rfl, rfl, rfl⟩ | ⟨rfl, rfl, rfl, rfl⟩ | ⟨rfl, rfl, rfl, rfl⟩ | ⟨rfl, rfl, rfl, rfl⟩
            · go_wp2_with fail
              refine H2.out.mono ?_
              rintro e W5 ⟨Ay, cy, rfl, rx, hap⟩
              have HAP := Bx.mk hap
              clear rx hap H2
              go_wp2_with fail
              go_roundw
              case rel => exact ⟨i + 1, by omega, by go_num, HAP⟩
              case measure => simp [intOf]; omega
            · go_wp2_with fail
              refine H2.out.mono ?_
              rintro e W5 ⟨Ay, cy, rfl, rx, hap⟩
              obtain ⟨gx, ox, rfl, _, kx⟩ := rx.cell (j := 0) (v := .int .i64 b) rfl
              rw [Nat.add_zero] at kx
              have HAP := Bx.mk hap
              clear rx hap H2
              go_wp2_with fail
              go_roundw
              case rel => exact ⟨i + 1, by omega, by go_num, HAP⟩
              case measure => simp [intOf]; omega
            · go_wp2_with fail
              refine H2.out.mono ?_
              rintro e W5 ⟨Ay, cy, rfl, rx, hap⟩
              obtain ⟨gx, ox, rfl, _, kx⟩ := rx.cell (j := 0) (v := .int .i64 a) rfl
              rw [Nat.add_zero] at kx
              have HAP := Bx.mk hap
              clear rx hap H2
              go_wp2_with fail
              go_roundw
              case rel => exact ⟨i + 1, by omega, by go_num, HAP⟩
              case measure => simp [intOf]; omega
            · go_wp2_with fail
              refine H2.out.mono ?_
              rintro e W5 ⟨Ay, cy, rfl, rx, hap⟩
              obtain ⟨gx, ox, rfl, _, kx⟩ := rx.cell (j := 0) (v := .int .i64 a) rfl
              rw [Nat.add_zero] at kx
              have HAP := Bx.mk hap
              clear rx hap H2
              go_wp2_with fail
              go_roundw
              case rel => exact ⟨i + 1, by omega, by go_num, HAP⟩
              case measure => simp [intOf]; omega

          · have him2 : ¬ (i : Int) < (m : Int) := by omega
            have him3 : decide ((i : Int) < (m : Int)) = false := by simp; omega
            have him4 : decide (i < m) = false := by simp; omega
            clear htw
            have HR := Bx.mk (ap_rounds (now := (i : Int)) hinv.out HB2.out rfl rfl (show a ≠ b by omega) (by simp) (by simp) (by simp [wants]) hi0 (by omega))
            clear hinv
            go_wp2_with (at_builtin; first | (refine wpList_append_eq rfl _ _ 31 31 rfl rfl rfl rfl HA1.out ?_; clear HA1) | (refine wpList_append_eq rfl _ _ 31 31 rfl rfl rfl rfl HA2.out ?_; clear HA2))
            refine HR.out.mono ?_
            rintro e W4 ⟨dx, dy, nx, ny, Ax, cx, hpair, rfl, h2⟩
            have H2 := Bx.mk h2
            clear h2 HR
            rcases hpair with ⟨rfl, rfl, rfl, rfl⟩ | ⟨rfl, rfl, rfl, rfl⟩ | ⟨rfl, rfl, rfl, rfl⟩ | ⟨rfl, rfl, rfl, rfl⟩
            · go_wp2_with fail
              refine H2.out.mono ?_
              rintro e W5 ⟨Ay, cy, rfl, rx, hap⟩
              have HAP := Bx.mk hap
              clear rx hap H2
              go_wp2_with fail
              go_roundw
              case rel => exact ⟨i + 1, by omega, by go_num, HAP⟩
              case measure => simp [intOf]; omega
            · go_wp2_with fail
              refine H2.out.mono ?_
              rintro e W5 ⟨Ay, cy, rfl, rx, hap⟩
              obtain ⟨gx, ox, rfl, _, kx⟩ := rx.cell (j := 0) (v := .int .i64 b) rfl
              rw [Nat.add_zero] at kx
              have HAP := Bx.mk hap
              clear rx hap H2
              go_wp2_with fail
              go_roundw
              case rel => exact ⟨i + 1, by omega, by go_num, HAP⟩
              case measure => simp [intOf]; omega
            · go_wp2_with fail
              refine H2.out.mono ?_
              rintro e W5 ⟨Ay, cy, rfl, rx, hap⟩
              obtain ⟨gx, ox, rfl, _, kx⟩ := rx.cell (j := 0) (v := .int .i64 a) rfl
              rw [Nat.add_zero] at kx
              have HAP := Bx.mk hap
              clear rx hap H2
              go_wp2_with fail
              go_roundw
              case rel => exact ⟨i + 1, by omega, by go_num, HAP⟩
              case measure => simp [intOf]; omega
            · go_wp2_with fail
              refine H2.out.mono ?_
              rintro e W5 ⟨Ay, cy, rfl, rx, hap⟩
              obtain ⟨gx, ox, rfl, _, kx⟩ := rx.cell (j := 0) (v := .int .i64 a) rfl
              rw [Nat.add_zero] at kx
              have HAP := Bx.mk hap
              clear rx hap H2
              go_wp2_with fail
              go_roundw
              case rel => exact ⟨i + 1, by omega, by go_num, HAP⟩
              case measure => simp [intOf]; omega

    · have HB := Bx.mk hbel
      clear hinv hbel
      go_wp2_with fail
      go_ret
      exact ⟨rfl, HB.out⟩

theorem apart_any (ev a b : Int) (A : Option Addr) (c : Nat) (l : List Bool) (B : Option Addr) (c' : Nat) (k : List Bool) (w : World) (hm : l.length ≤ maxLen) (hr : RowAt w (fun g => g < w.heap.size) A (BV l)) (hm2 : k.length ≤ maxLen) (hr2 : RowAt w (fun g => g < w.heap.size) B (BV k)) :
    Calls Try.prog 6 #[.int .i64 ev, .int .i64 a, .int .i64 b, .slice A l.length c, .slice B k.length c'] w (Tru w) := by
  by_cases h : (ev < 1 ∨ 1000 < ev) ∨ a < 1 ∨ b ≤ a ∨ 1099511627775 < b ∨ 200 < l.length
  · exact apart_no ev a b A B l.length c k.length c' w hm h
  · exact apart_in ev a b A B c c' l k w (by omega) hm2 hr hr2 (by omega) (by omega) (by omega) (by omega) (by omega)
end Go.Proofs.Ytamcmhadodgalaa.pl
