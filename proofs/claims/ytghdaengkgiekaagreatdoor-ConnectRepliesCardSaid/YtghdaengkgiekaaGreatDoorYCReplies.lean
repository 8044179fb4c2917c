/-
  Given for the seat's laws: ConnectReplies at any code and bytes. No condition but those of the theorems.
-/
import Derived.Test.YtghdaengkgiekaaGreatDoorYCRpp
import Derived.Test.YtghdaengkgiekaaGreatDoorYCOnce
namespace Go.Proofs.YtghdaengkgiekaaGreatDoor.cn
open Go.RowKit mem hd
set_option linter.unusedVariables false

def iz (k : Nat) (z : Bool) (n : Int) : Prop := ((k : Int) == n) = z
theorem iz_of {k n : Nat} {z : Bool} (h : decide (k = n) = z) : ((k : Int) == (n : Int)) = z := by
  rw [← h]
  by_cases e : k = n
  · simp [e]
  · rw [decide_eq_false e]; simp; omega
set_option maxRecDepth 100000 in
set_option maxHeartbeats 8000000 in
theorem replies_main {w : World} (he : hw.Env w) (hr : Rsn w) (c : Nat) (hc : c < 256) {B : Option Addr} {m d : Nat} {ds : Str} (hd : Spell w (fun g => g < w.heap.size) B m d ds) : Calls Tryz.prog 6 #[.int .u8 (c : Int), .slice B m d] w (True_ w) := by
  have HE := Bx.mk he
  have HR := Bx.mk hr
  have HD := Bx.mk hd
  have HDL := Bx.mk (spell_len hd)
  have HAW1 := Bx.mk (awake_any he)
  have HRF := Bx.mk (rf c)
  have HC := Bx.mk hc
  clear he hr hd hc
  go_enter Tryz.func6, Tryz.ntmps6
  go_wp2_with fail
  refine HAW1.out.mono ?_
  rintro e w2 ⟨rfl, hb2⟩
  have HD2 := Bx.mk (sp_next HD.out hb2)
  have HB2 := Bx.mk hb2
  clear hb2 HD HAW1
  by_cases hm6 : 600 < m
  · have q : (600 : Int) < (m : Int) := by omega
    clear hm6
    go_wp2_with fail
    exact bodyPost_ret (v := .bool true) (by simp [results, Tryz.results6, go_sem]) rfl ⟨rfl, HB2.out⟩
  have q : ¬ (600 : Int) < (m : Int) := by omega
  have hm6' : m ≤ 600 := by omega
  have HRp := Bx.mk (reply_any (HE.out.below HB2.out) (HR.out.below HB2.out) c HC.out HRF.out.pts HRF.out.sm)
  clear hm6
  go_wp2_with fail
  refine HRp.out.mono ?_
  rintro e w4 ⟨A4, n, c4, rfl, hn, hr4, hb4⟩
  have hs4 := hr4.spell hn
  have hrt := rtake_pr c ds
  have hok := (prints_iff _ _).1 HRF.out.pts
  have htk := take_pr hok.1 hok.2 []
  rw [List.append_nil] at htk
  have h512 := HRF.out.len
  obtain ⟨bs, hbs⟩ : ∃ bs, pr (rline c) (rflds c) = bs := ⟨_, rfl⟩
  rw [hbs] at hrt htk h512 hn hs4
  rw [hn] at hrt htk h512
  have HB4 := Bx.mk (HB2.out.trans (hb4.mono HB2.out.size))
  have hd4 := sp_next HD2.out hb4
  obtain ⟨A5, c5, w5, A6, c6, w6, ha5, ha6, hm6⟩ := both hs4 hd4 (by omega) (by omega)
  have HA5 := Bx.mk ha5
  have HA6 := Bx.mk ha6
  have hL6 : (bs ++ ds).length = n + m := by rw [List.length_append, hn, HDL.out]
  have hb6 := HB4.out.trans (hm6.below.mono HB4.out.size)
  have hT := rtake_any (HE.out.below hb6) (made_spell hm6 hL6)
  rw [hrt] at hT
  have HT : Bx (Calls Tryz.prog 18 #[.slice A6 (n + m) c6] w6 (Gives (.tuple #[.int .i64 ((rsn c).1 : Int), .int .i64 (n : Int), .int .i64 0]) w6)) := ⟨hT⟩
  have HS6 := Bx.mk (sp_next hs4 hm6.below)
  have HB6 := Bx.mk hb6
  have HTK := Bx.mk htk
  have qn : (n : Int) ≤ 512 := by omega
  have HSt := Bx.mk (fun (w : World) (h : Rsn w) => status_any h c HC.out)
  have hge := HRF.out.ge
  have hok2 := HRF.out.ok
  obtain ⟨k1, hk1⟩ : ∃ k, (vals (lowF (rflds c)) kC).length = k := ⟨_, rfl⟩
  obtain ⟨k2, hk2⟩ : ∃ k, (vals (lowF (rflds c)) kP).length = k := ⟨_, rfl⟩
  obtain ⟨k3, hk3⟩ : ∃ k, (vals (lowF (rflds c)) kA).length = k := ⟨_, rfl⟩
  have hv1 := HRF.out.v1
  have hv2 := HRF.out.v2
  have hv3 := HRF.out.v3
  rw [hk1] at hv1
  rw [hk2] at hv2
  rw [hk3] at hv3
  have HK1 := Bx.mk hk1
  have HK2 := Bx.mk hk2
  have HK3 := Bx.mk hk3
  obtain ⟨fs, hfs⟩ : ∃ fs, lowF (rflds c) = fs := ⟨_, rfl⟩
  have HF3 : Bx (fs.length ≤ 16) := ⟨by rw [← hfs, lowF_len]; exact HRF.out.sm.most⟩
  rw [hfs] at HTK HK1 HK2 HK3
  obtain ⟨ln, hln⟩ : ∃ ln, rline c = ln := ⟨_, rfl⟩
  rw [hln] at HTK
  obtain ⟨st, hst⟩ : ∃ st, (rsn c).1 = st := ⟨_, rfl⟩
  rw [hst] at HT HSt hge hok2 hv2 hv3
  obtain ⟨z, hz⟩ : ∃ z, decide (c = 0) = z := ⟨_, rfl⟩
  rw [hz] at hv1 hok2
  have b1 : ((k1 : Int) == 0) = z := iz_of hv1
  have b0 : ((c : Int) == 0) = z := iz_of hz
  obtain ⟨y, hy⟩ : ∃ y, decide (st = 407) = y := ⟨_, rfl⟩
  rw [hy] at hv2
  have b2 : ((k2 : Int) == 1) = y := iz_of hv2
  have b4 : ((st : Int) == 407) = y := iz_of hy
  obtain ⟨x, hx⟩ : ∃ x, decide (st = 405) = x := ⟨_, rfl⟩
  rw [hx] at hv3
  have b3 : ((k3 : Int) == 1) = x := iz_of hv3
  have b5 : ((st : Int) == 405) = x := iz_of hx
  have g1 : (200 : Int) ≤ (st : Int) := by omega
  have g2 : decide ((st : Int) < 300) = z := by
    rw [← hok2, decide_eq_true hge]
    by_cases h : st < 300
    · rw [decide_eq_true h, decide_eq_true (by omega)]; rfl
    · rw [decide_eq_false h, decide_eq_false (by omega)]; rfl
  clear hr4 hs4 hrt hok htk h512 hn hbs hb4 hd4 ha5 ha6 hm6 hL6 hb6 hT hge hok2 hk1 hk2 hk3 hv1 hv2 hv3 hfs hln hst hz hy hx HRF HRp HC HB4 HD2 HDL hm6'
  generalize (st : Int) = sti at *
  generalize (c : Int) = ci at *
  go_wp2_with (at_builtin; first | (refine wpList_append_eq rfl _ _ rfl rfl rfl rfl HA5.out ?_; clear HA5) | (refine wpList_append_eq rfl _ _ rfl rfl rfl rfl HA6.out ?_; clear HA6))
  refine HT.out.mono ?_
  rintro e w7 ⟨rfl, hb7⟩
  have hs7 := sp_next HS6.out hb7
  have HTa := Bx.mk (take_any0 hs7 (fun g hg => hg))
  have HB7 := Bx.mk (HB6.out.trans (hb7.mono HB6.out.size))
  clear hb7 hs7 HT HS6 HB6
  go_wp2_with fail
  refine HTa.out.mono ?_
  intro e w8 ht8
  obtain ⟨A8, c8, rfl, hf8, hb8⟩ := take_r HTK.out ht8
  obtain ⟨k8, hk8⟩ : ∃ k, fs.length = k := ⟨_, rfl⟩
  rw [hk8] at hf8 ⊢
  have hal := (Below.refl w8.heap.size w8).alloc (Nat.le_refl _) (.cells #[.string (S ln), .slice A8 k8 c8] 47)
  have HL9 := Bx.mk (Lies.new w8 47 #[.string (S ln), .slice A8 k8 c8])
  have HF9 := Bx.mk ((hf8.below hal (fun g hg => hg)).weak fun g hg => Nat.lt_of_lt_of_le hg hal.size)
  have HB9 := Bx.mk ((HB7.out.trans (hb8.mono HB7.out.size)).trans (hal.mono (Nat.le_trans HB7.out.size hb8.size)))
  have h16 := HF3.out
  rw [hk8] at h16
  clear ht8 hf8 hb8 hal hk8 HTa HB7 HTK
  go_upto_region 8 with fail
  generalize w8.alloc (.cells #[.string (S ln), .slice A8 k8 c8] 47) = W9 at *
  generalize w8.heap.size = g8 at *
  have HS9 := Bx.mk (HSt.out W9 (HR.out.below HB9.out))
  clear HSt
  cases z
  all_goals
    go_wp2_with fail
    refine HS9.out.mono ?_
    rintro e w10 ⟨rfl, hb10⟩
    have HL10 := Bx.mk (HL9.out.below hb10 HL9.out.lt)
    have HF10 := Bx.mk ((HF9.out.below hb10 (fun g hg => hg)).weak fun g hg => Nat.lt_of_lt_of_le hg hb10.size)
    have HB10 := Bx.mk (HB9.out.trans (hb10.mono HB9.out.size))
    have HV10 := Bx.mk (Values_any (l := ln) HF10.out (fun g hg => hg) (by omega) kC)
    obtain ⟨z0, z1⟩ := two HL10.out
    clear hb10 HL9 HF9 HB9 HS9
    go_wp2_with fail
    refine HV10.out.mono ?_
    rintro e w11 ⟨A11, c11, rfl, _, hb11⟩
    rw [HK1.out]
    have HL11 := Bx.mk (HL10.out.below hb11 HL10.out.lt)
    have HF11 := Bx.mk ((HF10.out.below hb11 (fun g hg => hg)).weak fun g hg => Nat.lt_of_lt_of_le hg hb11.size)
    have HB11 := Bx.mk (HB10.out.trans (hb11.mono HB10.out.size))
    have HV11 := Bx.mk (Values_any (l := ln) HF11.out (fun g hg => hg) (by omega) kP)
    clear z0 z1
    obtain ⟨z0, z1⟩ := two HL11.out
    clear hb11 HL10 HF10 HB10 HV10
    go_wp2_with fail
    refine HV11.out.mono ?_
    rintro e w12 ⟨A12, c12, rfl, _, hb12⟩
    rw [HK2.out]
    have HL12 := Bx.mk (HL11.out.below hb12 HL11.out.lt)
    have HF12 := Bx.mk ((HF11.out.below hb12 (fun g hg => hg)).weak fun g hg => Nat.lt_of_lt_of_le hg hb12.size)
    have HB12 := Bx.mk (HB11.out.trans (hb12.mono HB11.out.size))
    have HV12 := Bx.mk (Values_any (l := ln) HF12.out (fun g hg => hg) (by omega) kA)
    clear z0 z1
    obtain ⟨z0, z1⟩ := two HL12.out
    clear hb12 HL11 HF11 HB11 HV11
    go_wp2_with fail
    refine HV12.out.mono ?_
    rintro e w13 ⟨A13, c13, rfl, _, hb13⟩
    rw [HK3.out]
    have HB13 := Bx.mk (HB12.out.trans (hb13.mono HB12.out.size))
    clear hb13 HL12 HF12 HB12 HV12
    go_wp2_with fail
    exact bodyPost_ret (v := .bool true) (by simp [results, Tryz.results6, go_sem]) rfl ⟨rfl, HB13.out⟩
theorem replies_walk {w : World} (he : hw.Env w) (hr : Rsn w) {z : Int} (h0 : 0 ≤ z) (h1 : z < 256) {B : Option Addr} {m d : Nat} {bs : List Int} (hd : Src w (fun g => g < w.heap.size) B m d bs) : Calls Tryz.prog 6 #[.int .u8 z, .slice B m d] w (True_ w) := by
  obtain ⟨ds, rfl⟩ := ints_of hd.rng
  obtain ⟨c, rfl⟩ : ∃ c : Nat, z = (c : Int) := ⟨z.toNat, by omega⟩
  exact replies_main he hr c (by omega) hd
end Go.Proofs.YtghdaengkgiekaaGreatDoor.cn
