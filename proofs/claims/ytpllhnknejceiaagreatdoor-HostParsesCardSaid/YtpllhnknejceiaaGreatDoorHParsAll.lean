/-
  Given for the seat's laws: the contracts of the document's functions that read a text, and HostParses at any text. No condition but those of the theorems.
-/
import Derived.Test.YtpllhnknejceiaaGreatDoorHGreatW
import Derived.Test.YtpllhnknejceiaaGreatDoorHRNum
import Derived.Test.YtpllhnknejceiaaGreatDoorHRMay
namespace Go.Proofs.YtpllhnknejceiaaGreatDoor.hw
open Go.RowKit mem hostp own
set_option linter.unusedVariables false

theorem low_get {l : Str} {i : Nat} {c : UInt8} (h : l[i]? = some c) : (low l)[i]? = some (lc c) := by simp [low, h]
theorem low_length (l : Str) : (low l).length = l.length := by simp [low]

set_option maxRecDepth 100000 in
set_option maxHeartbeats 800000 in
theorem rlower_any (l : Str) (hl : l.length ≤ 3000) (w : World) : Calls Tryz.prog 25 #[.string (S l)] w (Gives (.string (S (low l))) w) := by
  have hsz : (S l).size = l.length := S_size l
  obtain ⟨m, hm⟩ : ∃ m, l.length = m := ⟨_, rfl⟩
  obtain ⟨u, hu⟩ : ∃ u, u = low l := ⟨_, rfl⟩
  have hul : u.length = m := by rw [hu, low_length, hm]
  rw [hm] at hsz hl
  rw [← hu]
  have HM := Bx.mk hm
  have HU := Bx.mk hu
  have HUL := Bx.mk hul
  have h0 : Bx (Made w w (.slice none (0 : Nat) 0) (u.take 0)) := ⟨⟨own_none w _ _, Below.refl _ _⟩⟩
  clear hm hu hul
  go_enter Tryz.func25, Tryz.ntmps25
  go_wp2
  go_loopw [3, 4] (fun s3 s4 wr => ∃ (i : Nat) (A' : Option Addr) (c' : Nat), i ≤ m ∧ s3 = .slice A' i c' ∧ s4 = .int .i64 (i : Int) ∧ Bx (Made w wr (.slice A' i c') (u.take i))) (fun _ s4 _ => m - (intOf s4).toNat)
  case atStart => exact ⟨0, none, 0, by omega, rfl, rfl, h0⟩
  case round =>
    clear h0
    obtain ⟨i, A', c', hi, rfl, rfl, HR⟩ := hrel
    by_cases him : i < m
    · obtain ⟨ch, hch⟩ : ∃ ch, l[i]? = some ch := ⟨_, List.getElem?_eq_getElem (by rw [HM.out]; exact him)⟩
      have hix := fun W => cs_at l i ch hch W
      have hch8 := ch.toNat_lt
      have hug := low_get hch
      obtain ⟨x, hx⟩ : ∃ x, x = lc ch := ⟨_, rfl⟩
      rw [← hx, ← HU.out] at hug
      have htk : u.take (i + 1) = u.take i ++ [x] := by rw [List.take_add_one, hug]; rfl
      have hul : (u.take i).length = i := by rw [List.length_take, HUL.out]; omega
      obtain ⟨A2, c2, w2, happ, hmd⟩ := HR.out.app ((Below.refl _ wr).alloc (Nat.le_refl _) (.cells #[.int .u8 (x.toNat : Int)] 5)) (lit1_src wr x) (by rw [hul]; omega)
      rw [hul] at happ hmd
      rw [← htk] at hmd
      have HAP := Bx.mk happ
      have HMD := Bx.mk hmd
      clear happ hmd htk hul hug hch
      by_cases hr : 65 ≤ ch.toNat ∧ ch.toNat ≤ 90
      · have hxw : (ch.toNat : Int) - 65 + 97 = (x.toNat : Int) := by
          rw [hx, lc_great hr]; omega
        obtain ⟨hr1, hr2⟩ := hr
        clear hx
        go_wp2_with (at_builtin; refine wpList_append_eq rfl _ _ rfl rfl rfl rfl HAP.out ?_)
        go_roundw
        case rel => exact ⟨i + 1, A2, c2, by omega, rfl, by go_num, HMD⟩
        case measure => simp [intOf]; omega
      · have hxc : x = ch := by rw [hx, lc_else hr]
        subst hxc
        clear hx
        rcases Nat.lt_or_ge x.toNat 65 with hlo | hlo
        · clear hr
          go_wp2_with (at_builtin; refine wpList_append_eq rfl _ _ rfl rfl rfl rfl HAP.out ?_)
          go_roundw
          case rel => exact ⟨i + 1, A2, c2, by omega, rfl, by go_num, HMD⟩
          case measure => simp [intOf]; omega
        · have hhi : 90 < x.toNat := by omega
          clear hr
          go_wp2_with (at_builtin; refine wpList_append_eq rfl _ _ rfl rfl rfl rfl HAP.out ?_)
          go_roundw
          case rel => exact ⟨i + 1, A2, c2, by omega, rfl, by go_num, HMD⟩
          case measure => simp [intOf]; omega
    · have htk : u.take i = u := List.take_of_length_le (by rw [HUL.out]; omega)
      rw [htk] at HR
      have hiu : u.length = i := by rw [HUL.out]; omega
      have how := HR.out.own
      rw [hiu] at how
      have hconv := spell_str (own_spell how)
      clear htk hiu how
      go_wp2
      go_ret
      exact ⟨rfl, HR.out.below⟩

theorem rdigit_any (c : UInt8) (w : World) : Calls Tryz.prog 26 #[.int .u8 (c.toNat : Int)] w fun e w' => e = .returned (.bool (dig c)) ∧ w' = w := by
  have hc := c.toNat_lt
  by_cases h1 : 48 ≤ c.toNat
  · by_cases h2 : c.toNat ≤ 57
    · have hd : dig c = true := by unfold dig; simp [h1, h2]
      rw [hd]
      go_enter Tryz.func26, Tryz.ntmps26
      go_wp2
      go_ret
      exact ⟨by first | rfl | (simp; omega), rfl⟩
    · have hd : dig c = false := by unfold dig; simp; omega
      have h3 : 57 < c.toNat := by omega
      rw [hd]
      go_enter Tryz.func26, Tryz.ntmps26
      go_wp2
      go_ret
      exact ⟨by first | rfl | (simp; omega), rfl⟩
  · have hd : dig c = false := by unfold dig; simp; omega
    have h3 : c.toNat < 48 := by omega
    rw [hd]
    go_enter Tryz.func26, Tryz.ntmps26
    go_wp2
    go_ret
    exact ⟨by first | rfl | (simp; omega), rfl⟩

/-- the digit that was found among the first k -/
def dK (c : UInt8) (k : Nat) : Int := match dv c with
  | some d => if d < k then (d : Int) else -1
  | none => -1
theorem dK_zero (c : UInt8) : dK c 0 = -1 := by
  unfold dK
  split
  · rw [if_neg (by omega)]
  · rfl
theorem dK_hit {c : UInt8} {k : Nat} (hk : k < 16) (h : dg k = c) : dK c (k + 1) = (k : Int) := by
  unfold dK
  rw [← h, dv_dg hk]
  show (if k < k + 1 then (k : Int) else -1) = _
  rw [if_pos (by omega)]
theorem dK_miss {c : UInt8} {k : Nat} (hk : k < 16) (h : dg k ≠ c) : dK c (k + 1) = dK c k := by
  unfold dK
  split
  · rename_i d hd
    have hne : d ≠ k := fun e => h (by rw [← e]; exact dg_dv hd)
    by_cases h1 : d < k
    · rw [if_pos h1, if_pos (by omega)]
    · rw [if_neg h1, if_neg (by omega)]
  · rfl
theorem dK_all {c : UInt8} {d : Nat} (h : dv c = some d) : dK c 16 = (d : Int) := by
  unfold dK
  rw [h]
  show (if d < 16 then (d : Int) else -1) = _
  rw [if_pos (dv_lt h)]
theorem dK_none {c : UInt8} (h : dv c = none) (k : Nat) : dK c k = -1 := by
  unfold dK
  rw [h]
theorem dK_range (c : UInt8) (k : Nat) : -1 ≤ dK c k ∧ dK c k < 16 := by
  unfold dK
  split
  · rename_i d hd
    have := dv_lt hd
    split <;> omega
  · omega
/-- a group as a number, or -1 -/
def gI (l : Str) : Int := match grp l with
  | some v => (v : Int)
  | none => -1
theorem gI_none {l : Str} (h : grp l = none) : gI l = -1 := by unfold gI; rw [h]
theorem gI_some {l : Str} {v : Nat} (h : grp l = some v) : gI l = (v : Int) := by unfold gI; rw [h]

set_option maxRecDepth 100000 in
set_option maxHeartbeats 1600000 in
theorem rgroup_any (l : Str) (hl : l.length ≤ 3000) (w : World) : Calls Tryz.prog 65 #[.string (S l)] w (Gives (.int .i64 (gI l)) w) := by
  have hsz : (S l).size = l.length := S_size l
  obtain ⟨m, hm⟩ : ∃ m, l.length = m := ⟨_, rfl⟩
  rw [hm] at hsz hl
  by_cases h0 : m = 0
  · have hg : gI l = -1 := gI_none (by unfold grp; rw [if_neg (fun h => h.1 (List.eq_nil_of_length_eq_zero (by omega)))])
    rw [hg]
    subst h0
    clear hg hm
    go_enter Tryz.func65, Tryz.ntmps65
    go_wp2
    go_ret
    exact ⟨rfl, Below.refl _ _⟩
  · by_cases h4 : 4 < m
    · have hg : gI l = -1 := gI_none (by unfold grp; rw [if_neg (fun h => by omega)])
      have h0' : 0 < m := by omega
      have e0 : ((m : Int) == 0) = false := beq_eq_false_iff_ne.2 (by omega)
      rw [hg]
      clear hg hm h0
      go_enter Tryz.func65, Tryz.ntmps65
      go_wp2
      go_ret
      exact ⟨rfl, Below.refl _ _⟩
    · have hg : grp l = vl 16 l 0 := by unfold grp; rw [if_pos ⟨fun e => by rw [e] at hm; simp at hm; omega, by omega⟩]
      have hm4 : m ≤ 4 := by omega
      have h0' : 0 < m := by omega
      have e0 : ((m : Int) == 0) = false := beq_eq_false_iff_ne.2 (by omega)
      have HM := Bx.mk hm
      have HG := Bx.mk hg
      clear hg hm h0 h4
      go_enter Tryz.func65, Tryz.ntmps65
      go_wp2
      go_loopw [3, 4] (fun s3 s4 wr => ∃ i N : Nat, i ≤ m ∧ N < 65536 ∧ s3 = .int .i64 (N : Int) ∧ s4 = .int .i64 (i : Int) ∧ Bx (vl 16 (l.take i) 0 = some N) ∧ Bx (Below w.heap.size w wr)) (fun _ s4 _ => m - (intOf s4).toNat)
      case atStart => exact ⟨0, 0, by omega, by omega, rfl, rfl, ⟨rfl⟩, ⟨Below.refl _ _⟩⟩
      case round =>
        obtain ⟨i, N, hi, hN, rfl, rfl, HV, HB⟩ := hrel
        by_cases him : i < m
        · obtain ⟨c, hc⟩ : ∃ c, l[i]? = some c := ⟨_, List.getElem?_eq_getElem (by rw [HM.out]; exact him)⟩
          have hix := fun W => cs_at l i c hc W
          have hvs := vl_step hc HV.out
          have HVS := Bx.mk hvs
          have HD0 := Bx.mk (dK_zero c)
          have hcb := c.toNat_lt
          clear hc hvs
          go_wp2
          go_loopw [5, 6] (fun s5 s6 wx => ∃ k : Nat, k ≤ 16 ∧ s6 = .int .i64 (k : Int) ∧ s5 = .int .i64 (dK c k) ∧ Bx (Below w.heap.size w wx)) (fun _ s6 _ => 16 - (intOf s6).toNat)
          case atStart => exact ⟨0, by omega, rfl, by rw [HD0.out], HB⟩
          case round =>
            obtain ⟨k, hk, rfl, rfl, HB2⟩ := hrel
            by_cases hk16 : k < 16
            · have hhx := fun W => hexdig W k hk16
              by_cases hd : dg k = c
              · have HK := Bx.mk (dK_hit hk16 hd)
                have e1 : (((dg k).toNat : Int) == (c.toNat : Int)) = true := by rw [hd]; exact beq_self_eq_true _
                clear hd
                go_wp2
                go_quiet (fail)
                go_wp2
                go_roundw
                case rel => exact ⟨k + 1, by omega, by go_num, by rw [HK.out], ⟨HB2.out.trans (((Still.drewN _ _).below _).mono HB2.out.size)⟩⟩
                case measure => simp [intOf]; omega
              · have HK := Bx.mk (dK_miss hk16 hd)
                have e1 : (((dg k).toNat : Int) == (c.toNat : Int)) = false := beq_eq_false_iff_ne.2 fun e => hd (UInt8.toNat_inj.1 (by omega))
                clear hd
                go_wp2
                go_quiet (fail)
                go_wp2
                go_roundw
                case rel => exact ⟨k + 1, by omega, by go_num, by rw [HK.out], ⟨HB2.out.trans (((Still.drewN _ _).below _).mono HB2.out.size)⟩⟩
                case measure => simp [intOf]; omega
            · obtain rfl : k = 16 := by omega
              rcases hdv : dv c with _ | d
              · have hdk := dK_none hdv 16
                have hg : gI l = -1 := gI_none (by
                  rw [HG.out]
                  refine vl_bad (i := i + 1) ?_
                  rw [HVS.out, hdv])
                have HGI := Bx.mk hg
                rw [hdk]
                clear hdk hdv hg
                go_wp2
                go_ret
                exact ⟨by rw [HGI.out]; rfl, HB2.out⟩
              · have hdk := dK_all hdv
                have hdl := dv_lt hdv
                have hv2 : vl 16 (l.take (i + 1)) 0 = some (N * 16 + d) := by
                  rw [HVS.out, hdv]
                  show (if d < 16 then some (N * 16 + d) else none) = _
                  rw [if_pos hdl]
                have hb : N * 16 + d < 65536 := by
                  have h1 := vl_take_lt hv2 (by rw [HM.out]; omega)
                  have h2 : 16 ^ (i + 1) ≤ 16 ^ 4 := Nat.pow_le_pow_right (by omega) (by omega)
                  have h3 : (16 : Nat) ^ 4 = 65536 := by decide
                  omega
                have HV2 := Bx.mk hv2
                rw [hdk]
                clear hdk hdv hv2
                go_wp2
                go_roundw
                case rel => exact ⟨i + 1, N * 16 + d, by omega, hb, by go_num, by go_num, HV2, HB2⟩
                case measure => simp [intOf]; omega
        · obtain rfl : i = m := by omega
          have hv : vl 16 l 0 = some N := by
            have := HV.out
            rwa [List.take_of_length_le (by rw [HM.out]; exact Nat.le_refl _)] at this
          have HGI := Bx.mk (gI_some (HG.out.trans hv))
          clear hv
          go_wp2
          go_ret
          exact ⟨by rw [HGI.out]; rfl, HB.out⟩

/-- a decimal number, or -1 -/
def dI (l : Str) (most : Nat) : Int := match dec l most with
  | some v => (v : Int)
  | none => -1
theorem dI_none {l : Str} {most : Nat} (h : dec l most = none) : dI l most = -1 := by unfold dI; rw [h]
theorem dI_some {l : Str} {most v : Nat} (h : dec l most = some v) : dI l most = (v : Int) := by unfold dI; rw [h]
theorem digit_dv {c : UInt8} (h : dig c = true) : dv c = some (c.toNat - 48) ∧ 48 ≤ c.toNat ∧ c.toNat ≤ 57 := by
  unfold dig at h
  simp only [Bool.and_eq_true, decide_eq_true_eq] at h
  exact ⟨dv_dig h, h⟩
theorem nodigit_dv {c : UInt8} (h : dig c = false) {d : Nat} (hd : dv c = some d) : ¬ d < 10 := fun hlt => by
  have := dv_dig_lt hd hlt
  unfold dig at h
  simp at h
  omega

set_option maxRecDepth 100000 in
set_option maxHeartbeats 1600000 in
theorem rdecimal_any (l : Str) (hl : l.length ≤ 3000) (most : Nat) (hmost : most ≤ 65535) (w : World) : Calls Tryz.prog 33 #[.string (S l), .int .i64 (most : Int)] w (Gives (.int .i64 (dI l most)) w) := by
  have hsz : (S l).size = l.length := S_size l
  obtain ⟨m, hm⟩ : ∃ m, l.length = m := ⟨_, rfl⟩
  rw [hm] at hsz hl
  by_cases h0 : m = 0
  · have hg : dI l most = -1 := dI_none (by unfold dec; rw [if_neg (fun h => h.1 (List.eq_nil_of_length_eq_zero (by omega)))])
    rw [hg]
    subst h0
    clear hg hm
    go_enter Tryz.func33, Tryz.ntmps33
    go_wp2
    go_ret
    exact ⟨rfl, Below.refl _ _⟩
  · by_cases h6 : 6 < m
    · have hg : dI l most = -1 := dI_none (by unfold dec; rw [if_neg (fun h => by omega)])
      have h0' : 0 < m := by omega
      have e0 : ((m : Int) == 0) = false := beq_eq_false_iff_ne.2 (by omega)
      rw [hg]
      clear hg hm h0
      go_enter Tryz.func33, Tryz.ntmps33
      go_wp2
      go_ret
      exact ⟨rfl, Below.refl _ _⟩
    · have hne : l ≠ [] ∧ l.length ≤ 6 := ⟨fun e => by rw [e] at hm; simp at hm; omega, by omega⟩
      have hm6 : m ≤ 6 := by omega
      have h0' : 0 < m := by omega
      have e0 : ((m : Int) == 0) = false := beq_eq_false_iff_ne.2 (by omega)
      have HM := Bx.mk hm
      have HNE := Bx.mk hne
      have HDG := Bx.mk rdigit_any
      clear hne hm h0 h6
      go_enter Tryz.func33, Tryz.ntmps33
      go_wp2
      go_loop [5, 6] (fun s5 s6 => ∃ i N : Nat, i ≤ m ∧ N < 1000000 ∧ s5 = .int .i64 (N : Int) ∧ s6 = .int .i64 (i : Int) ∧ Bx (vl 10 (l.take i) 0 = some N)) (fun _ s6 => m - (intOf s6).toNat)
      case atStart => exact ⟨0, 0, by omega, by omega, rfl, rfl, ⟨rfl⟩⟩
      case round =>
        obtain ⟨i, N, hi, hN, rfl, rfl, HV⟩ := hrel
        by_cases him : i < m
        · obtain ⟨c, hc⟩ : ∃ c, l[i]? = some c := ⟨_, List.getElem?_eq_getElem (by rw [HM.out]; exact him)⟩
          have hix := fun W => cs_at l i c hc W
          have hvs := vl_step hc HV.out
          have hcb := c.toNat_lt
          rcases hd : dig c with _ | _
          · have hg : dec l most = none := by
              have hbad : vl 10 l 0 = none := by
                refine vl_bad (i := i + 1) ?_
                rw [hvs]
                rcases hdv : dv c with _ | d
                · rfl
                · show (if d < 10 then some (N * 10 + d) else none) = none
                  rw [if_neg (nodigit_dv hd hdv)]
              unfold dec
              rw [if_pos HNE.out, hbad]
            have HGI := Bx.mk (dI_none hg)
            have hdg := fun W => HDG.out c W
            rw [hd] at hdg
            have HDC := Bx.mk hdg
            clear hg hc hvs hd hdg
            go_wp2_with fail
            refine (HDC.out _).mono ?_
            rintro e w' ⟨rfl, rfl⟩
            go_wp2_with fail
            go_ret
            exact ⟨by rw [HGI.out]; rfl, Below.refl _ _⟩
          · obtain ⟨hdv, hc1, hc2⟩ := digit_dv hd
            have hv2 : vl 10 (l.take (i + 1)) 0 = some (N * 10 + (c.toNat - 48)) := by
              rw [hvs, hdv]
              show (if c.toNat - 48 < 10 then some (N * 10 + (c.toNat - 48)) else none) = _
              rw [if_pos (by omega)]
            have hb : N * 10 + (c.toNat - 48) < 1000000 := by
              have h1 := vl_take_lt hv2 (by rw [HM.out]; omega)
              have h2 : 10 ^ (i + 1) ≤ 10 ^ 6 := Nat.pow_le_pow_right (by omega) (by omega)
              have h3 : (10 : Nat) ^ 6 = 1000000 := by decide
              omega
            have HV2 := Bx.mk hv2
            have hdg := fun W => HDG.out c W
            rw [hd] at hdg
            have HDC := Bx.mk hdg
            obtain ⟨y, hy⟩ : ∃ y : Nat, y = c.toNat - 48 := ⟨_, rfl⟩
            have hyi : (c.toNat : Int) - 48 = (y : Int) := by omega
            have hy10 : y < 10 := by omega
            rw [← hy] at HV2 hb
            clear hc hvs hd hdg hdv hv2 hy
            go_wp2_with fail
            refine (HDC.out _).mono ?_
            rintro e w' ⟨rfl, rfl⟩
            go_wp2_with fail
            go_round
            case rel => exact ⟨i + 1, N * 10 + y, by omega, hb, by go_num, by go_num, HV2⟩
            case measure => simp [intOf]; omega
        · obtain rfl : i = m := by omega
          have hv : vl 10 l 0 = some N := by
            have := HV.out
            rwa [List.take_of_length_le (by rw [HM.out]; exact Nat.le_refl _)] at this
          by_cases hgt : most < N
          · have hg : dec l most = none := by
              rcases hx : dec l most with _ | n
              · rfl
              · obtain ⟨h1, h2⟩ := (dec_iff (by omega)).1 hx
                rw [h2, vl_nm (by omega) (by omega)] at hv
                cases hv
                omega
            have HGI := Bx.mk (dI_none hg)
            clear hg hv
            go_wp2_with fail
            go_ret
            exact ⟨by rw [HGI.out]; rfl, Below.refl _ _⟩
          · have HNM := Bx.mk (number10_any N (by omega) w)
            by_cases hnm : nm 10 N = l
            · have hg : dec l most = some N := (dec_iff (by omega)).2 ⟨by omega, hnm.symm⟩
              have HGI := Bx.mk (dI_some hg)
              have hns := HNM.out
              rw [hnm] at hns
              have HNS := Bx.mk hns
              have es : ((S l).toList == (S l).toList) = true := beq_self_eq_true _
              clear hg hv hnm hns HNM
              go_wp2_with fail
              refine HNS.out.mono ?_
              rintro e w2 ⟨rfl, hb2⟩
              have HB2 := Bx.mk hb2
              clear hb2
              go_wp2_with fail
              go_ret
              exact ⟨by rw [HGI.out]; rfl, HB2.out⟩
            · have hg : dec l most = none := by
                rcases hx : dec l most with _ | n
                · rfl
                · obtain ⟨h1, h2⟩ := (dec_iff (by omega)).1 hx
                  rw [h2, vl_nm (by omega) (by omega)] at hv
                  cases hv
                  exact absurd h2.symm hnm
              have HGI := Bx.mk (dI_none hg)
              have es : ((S (nm 10 N)).toList == (S l).toList) = false := by
                rw [Lib.toList_data, Lib.toList_data, S_list, S_list]
                exact beq_eq_false_iff_ne.2 hnm
              generalize S (nm 10 N) = z at *
              clear hg hv hnm
              go_wp2_with fail
              refine HNM.out.mono ?_
              rintro e w2 ⟨rfl, hb2⟩
              have HB2 := Bx.mk hb2
              clear hb2
              go_wp2_with fail
              go_ret
              exact ⟨by rw [HGI.out]; rfl, HB2.out⟩

structure MadeS (w wr : World) (v : Value) (l : List Str) : Prop where
  own : wr.ownsRow w.heap.size 9 1 v l.length (sv l)
  below : Below w.heap.size w wr
theorem sv_one (l : List Str) : ∀ v ∈ sv l, v.oneCell' = true := by
  intro v hv
  obtain ⟨z, _, rfl⟩ := List.mem_map.1 hv
  rfl
theorem MadeS.push {w w1 : World} {v : Value} {l : List Str} (h : MadeS w w1 v l) (hl : l.length ≤ 100000) (x : Str) :
    ∃ A c w2, (Builtin.append_ #[74, 74] 74 #[v, .slice (some ⟨w1.heap.size, 0, none⟩) 1 1]).run Tryz.prog (w1.alloc (.cells #[.string (S x)] 9)) = .ok (.slice A (l.length + 1) c) w2 ∧
      MadeS w w2 (.slice A (l.length + 1 : Nat) c) (l ++ [x]) := by
  have h3 := own_same (w' := w1.alloc (.cells #[.string (S x)] 9)) h.own (fun g hg => Below.heap_alloc _ _ _ (own_lt h.own hg).2)
  obtain ⟨i0, hinf, hz0, hz1, hz2⟩ := info_parts (show (Tryz.prog.info? 9).map (fun i => (i.zero, i.size, i.bytes)) = some (some (.string ⟨#[]⟩), 1, 16) by kernel_rfl)
  obtain ⟨v', w2, hr, ho, hg, _, hat⟩ := run_append_own_at (P := Tryz.prog) (w1.alloc (.cells #[.string (S x)] 9)) w.heap.size 74 74 9 i0 (.string ⟨#[]⟩) 1 16 Tryz.underlying74 hinf hz0 hz1 hz2 rfl (by decide) v l.length (sv l) h3 ⟨w1.heap.size, 0, none⟩ 1 1 (sv [x]) rfl
    (fun j u hu => by
      match j, hu with
      | 0, hu =>
        have := Option.some.inj hu
        subst this
        exact lit_cell w1 _ _ _ 0
      | j + 1, hu => simp [sv] at hu) (sv_one _) (by unfold maxLen; omega) (by omega) (by simp; have := h.below.size; omega)
  obtain ⟨A', c', rfl⟩ := own_form ho
  refine ⟨A', c', w2, hr, ?_, (h.below.alloc h.below.size _).grown hg (h.below.alloc h.below.size _).size (fun g e => (own_lt h3 e).1)⟩
  have e1 : (l ++ [x]).length = l.length + 1 := by simp
  have e2 : sv (l ++ [x]) = sv l ++ sv [x] := by simp [sv]
  rw [e1, e2]
  exact ho
theorem wpList_app {P : Program} {w w' : World} {T : TypeId} {ops : Array Oper} {rest : List Oper} {o : Oper} {a : Act} {Q : Exit → Act → World → Prop} {v u v' : Value} (hg : o.guard = none) (s x : Operand)
    (hop : o.op = Op.call { callee := Callee.builtin Builtin.append, args := #[s, x], argTypes := #[T, T] }) (hty : o.type = T) (hs : a.eval s = v) (hx : a.eval x = u)
    (hrun : (Builtin.append_ #[T, T] T #[v, u]).run P w = .ok v' w') (h : wpList P ops Q rest (a.put o.dst v') w') : wpList P ops Q (o :: rest) a w := by
  refine wpList_plain hg fun K hK' => ?_
  unfold Oper.wp
  simp [execOp, hop, hty, resolve, invoke, builtin, hs, hx, hrun, Result.andThen]
  exact hK' _ _ h

def SplitTo (a : UInt8) (l : Str) (w : World) (e : Ending) (w' : World) : Prop := ∃ A c, e = .returned (.slice A (cut a l).length c) ∧ MadeS w w' (.slice A (cut a l).length c) (cut a l)

set_option maxRecDepth 100000 in
set_option maxHeartbeats 1600000 in
theorem rsplit_any (l : Str) (hl : l.length ≤ 3000) (a : UInt8) (w : World) : Calls Tryz.prog 49 #[.string (S l), .int .u8 (a.toNat : Int)] w (SplitTo a l w) := by
  have hsz : (S l).size = l.length := S_size l
  obtain ⟨m, hm⟩ : ∃ m, l.length = m := ⟨_, rfl⟩
  rw [hm] at hsz hl
  have HM := Bx.mk hm
  have h0 : Bx (MadeS w w (.slice none ([] : List Str).length 0) []) := ⟨⟨own_none w _ _, Below.refl _ _⟩⟩
  have hab := a.toNat_lt
  clear hm
  go_enter Tryz.func49, Tryz.ntmps49
  go_wp2
  go_loopw [5, 6, 7] (fun s5 s6 s7 wr => ∃ (i : Nat) (ps : List Str) (x : Str) (A' : Option Addr) (c' : Nat), i ≤ m ∧ s5 = .slice A' ps.length c' ∧ s6 = .string (S x) ∧ s7 = .int .i64 (i : Int) ∧ ps.length ≤ i ∧ x.length ≤ i ∧ Bx (cut a (l.take i) = ps ++ [x]) ∧ Bx (MadeS w wr (.slice A' ps.length c') ps)) (fun _ _ s7 _ => m - (intOf s7).toNat)
  case atStart => exact ⟨0, [], [], none, 0, by omega, rfl, rfl, rfl, by simp, by simp, ⟨rfl⟩, h0⟩
  case round =>
    clear h0
    obtain ⟨i, ps, x, A', c', hi, rfl, rfl, rfl, hps, hxl, HC, HR⟩ := hrel
    by_cases him : i < m
    · obtain ⟨c, hc⟩ : ∃ c, l[i]? = some c := ⟨_, List.getElem?_eq_getElem (by rw [HM.out]; exact him)⟩
      have hix := fun W => cs_at l i c hc W
      have hcb := c.toNat_lt
      have htk : l.take (i + 1) = l.take i ++ [c] := by rw [List.take_add_one, hc]; rfl
      by_cases hca : c = a
      · have hcut := cut_snoc_at a _ _ _ HC.out
        rw [← hca, ← htk] at hcut
        rw [hca] at hcut
        have e1 : ((c.toNat : Int) == (a.toNat : Int)) = true := by rw [hca]; exact beq_self_eq_true _
        obtain ⟨A2, c2, w2, happ, hmd⟩ := HR.out.push (by omega) x
        have hlen : (ps ++ [x]).length = ps.length + 1 := by simp
        have HAP := Bx.mk happ
        have HMD := Bx.mk (show MadeS w w2 (.slice A2 (ps ++ [x]).length c2) (ps ++ [x]) by rw [hlen]; exact hmd)
        have HCUT := Bx.mk (show cut a (l.take (i + 1)) = (ps ++ [x]) ++ [[]] by rw [hcut]; simp)
        have HLEN := Bx.mk hlen
        have hle2 : (ps ++ [x]).length ≤ i + 1 := by omega
        generalize S x = sx at *
        generalize ps ++ [x] = qs at *
        clear hc htk hcut happ hmd hlen hca
        go_wp2_with (at_builtin; refine wpList_app rfl _ _ rfl rfl rfl rfl HAP.out ?_)
        go_roundw
        case rel => exact ⟨i + 1, qs, [], A2, c2, by omega, by rw [HLEN.out], rfl, by go_num, hle2, by simp, HCUT, HMD⟩
        case measure => simp [intOf]; omega
      · have hcut := cut_snoc a hca _ _ _ HC.out
        rw [← htk] at hcut
        have e1 : ((c.toNat : Int) == (a.toNat : Int)) = false := beq_eq_false_iff_ne.2 fun e => hca (UInt8.toNat_inj.1 (by omega))
        have hone := one_byte (wr.alloc (.cells #[.int .u8 (c.toNat : Int)] 5)) c wr.heap.size 1 ((Lies.new wr 5 #[.int .u8 (c.toNat : Int)]).cell 0)
        have hadd : ∀ W, (Op.stringOp .add (S x) (S [c])).run Tryz.prog W = .ok (.string (S (x ++ [c]))) W := fun W => add_str W x [c] (by omega) (by simp)
        have HR2 := Bx.mk (show MadeS w (wr.alloc (.cells #[.int .u8 (c.toNat : Int)] 5)) (.slice A' ps.length c') ps from ⟨own_same HR.out.own (fun g hg => Below.heap_alloc _ _ _ (own_lt HR.out.own hg).2), HR.out.below.alloc HR.out.below.size _⟩)
        have HCUT := Bx.mk hcut
        have hle2 : (x ++ [c]).length ≤ i + 1 := by simp; omega
        generalize x ++ [c] = x2 at *
        generalize S [c] = sc at *
        generalize S x = sx at *
        clear hc htk hcut hca HR
        go_wp2
        go_roundw
        case rel => exact ⟨i + 1, ps, x2, A', c', by omega, rfl, rfl, by go_num, by omega, hle2, HCUT, HR2⟩
        case measure => simp [intOf]; omega
    · obtain rfl : i = m := by omega
      have hcut : cut a l = ps ++ [x] := by rw [← HC.out, List.take_of_length_le (by rw [HM.out]; exact Nat.le_refl _)]
      obtain ⟨A2, c2, w2, happ, hmd⟩ := HR.out.push (by omega) x
      have HAP := Bx.mk happ
      have HMD := Bx.mk hmd
      have HCUT := Bx.mk hcut
      generalize S x = sx at *
      clear happ hmd hcut
      go_wp2_with (at_builtin; refine wpList_app rfl _ _ rfl rfl rfl rfl HAP.out ?_)
      go_ret
      have hlen : (ps ++ [x]).length = ps.length + 1 := by simp
      exact ⟨A2, c2, by rw [HCUT.out, hlen]; rfl, by rw [HCUT.out, hlen]; exact HMD.out⟩

theorem ownsRow_mono {w : World} {B B' : Nat} {e : TypeId} {v : Value} {n : Nat} {xs : List Value} (h : w.ownsRow B e 1 v n xs) (hb : B' ≤ B) : w.ownsRow B' e 1 v n xs := by
  refine ⟨h.1, ?_⟩
  rcases h.2 with h0 | ⟨g, cap, cur, hv, hB, rest⟩
  · exact .inl h0
  · exact .inr ⟨g, cap, cur, hv, Nat.le_trans hb hB, rest⟩
theorem MadeS.cell {w wr : World} {A : Option Addr} {n c : Nat} {l : List Str} (h : MadeS w wr (.slice A n c) l) (hn : l.length = n) {i : Nat} {x : Str} (hx : l[i]? = some x) : ∃ g, A = some ⟨g, 0, none⟩ ∧ g < wr.heap.size ∧ wr.cell? ⟨g, i, none⟩ = some (.string (S x)) := by
  have hlt := (List.getElem?_eq_some_iff.1 hx).1
  obtain ⟨g, cap, e, _, hg, _, hc⟩ := own_cells h.own (by omega)
  simp only [Value.slice.injEq] at e
  obtain ⟨rfl, _, rfl⟩ := e
  exact ⟨g, rfl, hg, hc i _ (by simp [sv, hx])⟩
theorem MadeS.fresh {w wr w2 : World} {v : Value} {l : List Str} (h : MadeS w wr v l) (hb : Below wr.heap.size wr w2) : MadeS w w2 v l :=
  ⟨own_same h.own (fun g hg => hb.block g (own_lt h.own hg).2), h.below.trans (hb.mono h.below.size)⟩

/-- the bytes of an address of four, or none -/
def fB (l : Str) : Str := match four l with
  | some b => b.map UInt8.ofNat
  | none => []
theorem fB_none {l : Str} (h : four l = none) : fB l = [] := by unfold fB; rw [h]
theorem fB_some {l : Str} {b : List Nat} (h : four l = some b) : fB l = b.map UInt8.ofNat := by unfold fB; rw [h]
theorem decs_bad {ps : List Str} {i : Nat} {x : Str} {b : List Nat} (hb : decs (ps.take i) = some b) (hx : ps[i]? = some x) (h : dec x 255 = none) : decs ps = none := by
  have hlt := (List.getElem?_eq_some_iff.1 hx).1
  have e : ps = ps.take i ++ (x :: ps.drop (i + 1)) := by
    conv => lhs; rw [← List.take_append_drop i ps]
    rw [List.drop_eq_getElem_cons hlt, (List.getElem?_eq_some_iff.1 hx).2]
  rw [e, decs_append, hb, decs_cons, h]
theorem decs_more {ps : List Str} {i v : Nat} {x : Str} {b : List Nat} (hb : decs (ps.take i) = some b) (hx : ps[i]? = some x) (h : dec x 255 = some v) : decs (ps.take (i + 1)) = some (b ++ [v]) := by
  rw [List.take_add_one, hx]
  show decs (ps.take i ++ [x]) = _
  rw [decs_append, hb, decs_cons, h]
  rfl
theorem dec_le255 {x : Str} {v : Nat} (h : dec x 255 = some v) : v ≤ 255 := ((dec_iff (by omega)).1 h).1
theorem piece_len {a : UInt8} {l : Str} {i : Nat} {x : Str} (hx : (cut a l)[i]? = some x) : x.length ≤ l.length := by
  have hj := join_cut a l
  have hm := List.mem_of_getElem? hx
  have : ∀ (ps : List Str), x ∈ ps → x.length ≤ (join a ps).length := fun ps => by
    induction ps with
    | nil => intro h; simp at h
    | cons y r ih =>
      intro h
      cases r with
      | nil =>
        obtain rfl : x = y := by simpa using h
        exact Nat.le_refl _
      | cons z r =>
        show x.length ≤ (y ++ a :: join a (z :: r)).length
        rw [List.length_append, List.length_cons]
        rcases List.mem_cons.1 h with rfl | h
        · omega
        · have := ih h
          omega
  have := this _ hm
  rw [hj] at this
  exact this

set_option maxRecDepth 100000 in
set_option maxHeartbeats 1600000 in
theorem rfour_any (l : Str) (hl : l.length ≤ 3000) (w : World) : Calls Tryz.prog 28 #[.string (S l)] w (Gives (.string (S (fB l))) w) := by
  have HSP := Bx.mk (rsplit_any l hl 46 w)
  obtain ⟨ps, hps⟩ : ∃ ps, cut 46 l = ps := ⟨_, rfl⟩
  have hpl : ∀ (i : Nat) (x : Str), ps[i]? = some x → x.length ≤ 3000 := fun i x hx => by
    rw [← hps] at hx
    exact Nat.le_trans (piece_len hx) hl
  have hsp := HSP.out
  unfold SplitTo at hsp
  rw [hps] at hsp
  have HSP := Bx.mk hsp
  have HPL := Bx.mk hpl
  have HF : Bx (four l = if ps.length = 4 then decs ps else none) := ⟨by unfold four; rw [hps]⟩
  obtain ⟨n, hn⟩ : ∃ n, ps.length = n := ⟨_, rfl⟩
  have HN := Bx.mk hn
  clear hps hpl hsp hn
  go_enter Tryz.func28, Tryz.ntmps28
  go_wp2_with fail
  refine HSP.out.mono ?_
  rintro e w1 ⟨A1, c1, rfl, hm1⟩
  have hm1' := hm1
  rw [HN.out] at hm1'
  rw [HN.out]
  have HM1 := Bx.mk hm1'
  clear hm1 hm1' HSP
  by_cases hn4 : n = 4
  · subst hn4
    have h0 : Bx (Made w1 w1 (.slice none (0 : Nat) 0) ([] : Str)) := ⟨⟨own_none w1 _ _, Below.refl _ _⟩⟩
    go_wp2_with fail
    go_loopw [4, 5] (fun s4 s5 wr => ∃ (i : Nat) (b : List Nat) (A' : Option Addr) (c' : Nat), i ≤ 4 ∧ b.length = i ∧ s4 = .slice A' i c' ∧ s5 = .int .i64 (i : Int) ∧ Bx (decs (ps.take i) = some b) ∧ Bx (Made w1 wr (.slice A' i c') (b.map UInt8.ofNat))) (fun _ s5 _ => 4 - (intOf s5).toNat)
    case atStart => exact ⟨0, [], none, 0, by omega, rfl, rfl, rfl, ⟨rfl⟩, h0⟩
    case round =>
      clear h0
      obtain ⟨i, b, A', c', hi, hbl, rfl, rfl, HD, HR⟩ := hrel
      by_cases hi4 : i < 4
      · obtain ⟨x, hx⟩ : ∃ x, ps[i]? = some x := ⟨_, List.getElem?_eq_getElem (by rw [HN.out]; exact hi4)⟩
        have hmr := HM1.out.fresh HR.out.below
        obtain ⟨g, rfl, hg, hcx⟩ := hmr.cell HN.out hx
        have HDX := Bx.mk (rdecimal_any x (HPL.out i x hx) 255 (by omega) wr)
        clear hmr
        rcases hdx : dec x 255 with _ | v
        · have hbad : four l = none := by rw [HF.out, if_pos HN.out]; exact decs_bad HD.out hx hdx
          have HFB := Bx.mk (fB_none hbad)
          have hd := HDX.out
          rw [dI_none hdx] at hd
          have HDX := Bx.mk (show Calls Tryz.prog 33 #[.string (S x), .int .i64 255] wr (Gives (.int .i64 (-1)) wr) from hd)
          generalize S x = sx at *
          clear hx hdx hbad hd
          go_wp2_with fail
          refine HDX.out.mono ?_
          rintro e w2 ⟨rfl, hb2⟩
          have HB2 := Bx.mk (HM1.out.below.trans ((HR.out.below.trans (hb2.mono HR.out.below.size)).mono HM1.out.below.size))
          clear hb2
          go_wp2_with fail
          go_ret
          exact ⟨by rw [HFB.out]; rfl, HB2.out⟩
        · have HD2 := Bx.mk (decs_more HD.out hx hdx)
          have hvb := dec_le255 hdx
          have hd := HDX.out
          rw [dI_some hdx] at hd
          have HDX := Bx.mk (show Calls Tryz.prog 33 #[.string (S x), .int .i64 255] wr (Gives (.int .i64 (v : Int)) wr) from hd)
          have HL2 : Bx ((b ++ [v]).length = i + 1) := ⟨by simp [hbl]⟩
          have hw8 : IntKind.u8.wrap (v : Int) = (v : Int) := by rw [IntKind.wrap_u8']; omega
          generalize S x = sx at *
          clear hx hdx hd
          go_wp2_with fail
          refine HDX.out.mono ?_
          rintro e w2 ⟨rfl, hb2⟩
          have hr2 := HR.out.fresh hb2
          have hv8 : ((UInt8.ofNat v).toNat : Int) = (v : Int) := by simp; omega
          obtain ⟨A2, c2, w3, happ, hmd⟩ := hr2.app ((Below.refl _ w2).alloc (Nat.le_refl _) (.cells #[.int .u8 ((UInt8.ofNat v).toNat : Int)] 5)) (lit1_src w2 (UInt8.ofNat v)) (by simp; omega)
          rw [List.length_map, hbl] at happ hmd
          rw [hv8] at happ
          have HAP := Bx.mk happ
          have HMD := Bx.mk (show Made w1 w3 (.slice A2 (i + 1 : Nat) c2) ((b ++ [v]).map UInt8.ofNat) by rw [List.map_append]; exact hmd)
          generalize b ++ [v] = b2 at *
          clear hb2 hr2 hv8 happ hmd
          go_wp2_with (at_builtin; refine wpList_append_eq rfl _ _ rfl rfl rfl rfl HAP.out ?_)
          go_roundw
          case rel => exact ⟨i + 1, b2, A2, c2, by omega, HL2.out, rfl, by go_num, HD2, HMD⟩
          case measure => simp [intOf]; omega
      · obtain rfl : i = 4 := by omega
        have hall : ps.take 4 = ps := List.take_of_length_le (by rw [HN.out]; exact Nat.le_refl _)
        have hd := HD.out
        rw [hall] at hd
        have HFB := Bx.mk (fB_some (l := l) (b := b) (by rw [HF.out, if_pos HN.out]; exact hd))
        have how := HR.out.own
        rw [List.length_map, hbl] at how
        have hconv := spell_str (own_spell how)
        have HB := Bx.mk (HM1.out.below.trans (HR.out.below.mono HM1.out.below.size))
        have HZ := Bx.mk (show S (fB l) = S (b.map UInt8.ofNat) by rw [HFB.out])
        generalize S (b.map UInt8.ofNat) = z at *
        clear hall hd how
        go_wp2_with fail
        go_ret
        exact ⟨by rw [HZ.out]; rfl, HB.out⟩
  · have HFB := Bx.mk (fB_none (l := l) (by rw [HF.out, if_neg (by rw [HN.out]; exact hn4)]))
    have e4 : ((n : Int) != 4) = true := bne_iff_ne.2 (by omega)
    go_wp2_with fail
    go_ret
    exact ⟨by rw [HFB.out]; rfl, HM1.out.below⟩

theorem grps_bad {ps : List Str} {i : Nat} {x : Str} {b : List Nat} (hb : grps (ps.take i) = some b) (hx : ps[i]? = some x) (h : grp x = none) : grps ps = none := by
  have hlt := (List.getElem?_eq_some_iff.1 hx).1
  have e : ps = ps.take i ++ (x :: ps.drop (i + 1)) := by
    conv => lhs; rw [← List.take_append_drop i ps]
    rw [List.drop_eq_getElem_cons hlt, (List.getElem?_eq_some_iff.1 hx).2]
  rw [e, grps_append, hb, grps_cons, h]
theorem grps_more {ps : List Str} {i v : Nat} {x : Str} {b : List Nat} (hb : grps (ps.take i) = some b) (hx : ps[i]? = some x) (h : grp x = some v) : grps (ps.take (i + 1)) = some (b ++ [v]) := by
  rw [List.take_add_one, hx]
  show grps (ps.take i ++ [x]) = _
  rw [grps_append, hb, grps_cons, h]
  rfl
/-- what groups tells -/
def GroupsTo (l : Str) (w : World) (e : Ending) (w' : World) : Prop :=
  (groups l = none ∧ e = .returned (.tuple #[.slice none 0 0, .bool false]) ∧ Below w.heap.size w w') ∨
  ∃ b A c, groups l = some b ∧ e = .returned (.tuple #[.slice A (2 * b.length : Nat) c, .bool true]) ∧ Made w w' (.slice A (2 * b.length : Nat) c) (by2 b)

set_option maxRecDepth 100000 in
set_option maxHeartbeats 1600000 in
theorem rgroups_any (l : Str) (hl : l.length ≤ 3000) (w : World) : Calls Tryz.prog 48 #[.string (S l)] w (GroupsTo l w) := by
  by_cases hnil : l = []
  · subst hnil
    go_enter Tryz.func48, Tryz.ntmps48
    have e1 : (S []).toList.isEmpty = true := by rw [Lib.toList_data]; rfl
    go_wp2_with fail
    go_ret2
    exact .inr ⟨[], none, 0, rfl, rfl, ⟨own_none w _ _, Below.refl _ _⟩⟩
  · have e1 : (S l).toList.isEmpty = false := by
      rw [Lib.toList_data, S_list]
      cases l with
      | nil => exact absurd rfl hnil
      | cons c r => rfl
    obtain ⟨ps, hps⟩ : ∃ ps, cut 58 l = ps := ⟨_, rfl⟩
    have hpl : ∀ (i : Nat) (x : Str), ps[i]? = some x → x.length ≤ 3000 := fun i x hx => by
      rw [← hps] at hx
      exact Nat.le_trans (piece_len hx) hl
    have hsp := rsplit_any l hl 58 w
    unfold SplitTo at hsp
    rw [hps] at hsp
    have hpn : ps.length ≤ 4000 := by
      have h1 := join_cut 58 l
      rw [hps] at h1
      have : ∀ qs : List Str, qs.length ≤ (join 58 qs).length + 1 := fun qs => by
        induction qs with
        | nil => simp
        | cons y r ih =>
          cases r with
          | nil => simp
          | cons z r =>
            show (z :: r).length + 1 ≤ (y ++ 58 :: join 58 (z :: r)).length + 1
            rw [List.length_append, List.length_cons (a := (58 : UInt8))]
            omega
      have h2 := this ps
      rw [h1] at h2
      omega
    have HSP := Bx.mk hsp
    have HPL := Bx.mk hpl
    have HF : Bx (groups l = grps ps) := ⟨by unfold groups; rw [if_neg hnil, hps]⟩
    obtain ⟨n, hn⟩ : ∃ n, ps.length = n := ⟨_, rfl⟩
    rw [hn] at hpn
    have HN := Bx.mk hn
    clear hps hpl hsp hn hnil
    go_enter Tryz.func48, Tryz.ntmps48
    go_wp2_with fail
    refine HSP.out.mono ?_
    rintro e w1 ⟨A1, c1, rfl, hm1⟩
    have hm1' := hm1
    rw [HN.out] at hm1'
    rw [HN.out]
    have HM1 := Bx.mk hm1'
    have h0 : Bx (Made w1 w1 (.slice none (2 * 0 : Nat) 0) (by2 [])) := ⟨⟨own_none w1 _ _, Below.refl _ _⟩⟩
    clear hm1 hm1' HSP
    go_wp2_with fail
    go_loopw [4, 6] (fun s4 s6 wr => ∃ (i : Nat) (b : List Nat) (A' : Option Addr) (c' k : Nat), i ≤ n ∧ b.length = i ∧ k = 2 * i ∧ s4 = .slice A' k c' ∧ s6 = .int .i64 (i : Int) ∧ Bx (grps (ps.take i) = some b) ∧ Bx (Made w1 wr (.slice A' k c') (by2 b))) (fun _ s6 _ => n - (intOf s6).toNat)
    case atStart => exact ⟨0, [], none, 0, 0, by omega, rfl, rfl, rfl, rfl, ⟨rfl⟩, h0⟩
    case round =>
      clear h0
      obtain ⟨i, b, A', c', k, hi, hbl0, hk0, rfl, rfl, HD, HR⟩ := hrel
      have HK := Bx.mk hk0
      have HBN := Bx.mk hbl0
      have hkb : k ≤ 8000 := by omega
      clear hk0 hbl0
      by_cases hin : i < n
      · obtain ⟨x, hx⟩ : ∃ x, ps[i]? = some x := ⟨_, List.getElem?_eq_getElem (by rw [HN.out]; exact hin)⟩
        have hmr := HM1.out.fresh HR.out.below
        obtain ⟨g, rfl, hg, hcx⟩ := hmr.cell HN.out hx
        have HDX := Bx.mk (rgroup_any x (HPL.out i x hx) wr)
        clear hmr
        rcases hdx : grp x with _ | v
        · have hbad : groups l = none := by rw [HF.out]; exact grps_bad HD.out hx hdx
          have HBAD := Bx.mk hbad
          have hd := HDX.out
          rw [gI_none hdx] at hd
          have HDX := Bx.mk hd
          generalize S x = sx at *
          clear hx hdx hbad hd
          go_wp2_with fail
          refine HDX.out.mono ?_
          rintro e w2 ⟨rfl, hb2⟩
          have HB2 := Bx.mk (HM1.out.below.trans ((HR.out.below.trans (hb2.mono HR.out.below.size)).mono HM1.out.below.size))
          clear hb2
          go_wp2_with fail
          go_ret2
          exact .inl ⟨HBAD.out, rfl, HB2.out⟩
        · have HD2 := Bx.mk (grps_more HD.out hx hdx)
          have hvb := (grp_some hdx).2.2
          have hd := HDX.out
          rw [gI_some hdx] at hd
          have HDX := Bx.mk hd
          have HL2 : Bx ((b ++ [v]).length = i + 1) := ⟨by simp [HBN.out]⟩
          obtain ⟨p, hp⟩ : ∃ p, v / 256 = p := ⟨_, rfl⟩
          obtain ⟨q, hq⟩ : ∃ q, v % 256 = q := ⟨_, rfl⟩
          have hp1 : (v : Int) / 256 = (p : Int) := by omega
          have hq1 : (v : Int) % 256 = (q : Int) := by omega
          have hwp : IntKind.u8.wrap (p : Int) = (p : Int) := by rw [IntKind.wrap_u8']; omega
          have hwq : IntKind.u8.wrap (q : Int) = (q : Int) := by rw [IntKind.wrap_u8']; omega
          have hpb : p < 256 := by omega
          have hqb : q < 256 := by omega
          have HB2' := Bx.mk (show by2 (b ++ [v]) = by2 b ++ [UInt8.ofNat p, UInt8.ofNat q] by rw [by2_append, ← hp, ← hq]; rfl)
          have HBL := Bx.mk (by2_len b)
          generalize S x = sx at *
          clear hx hdx hd hp hq
          go_wp2_with fail
          refine HDX.out.mono ?_
          rintro e w2 ⟨rfl, hb2⟩
          have hr2 := HR.out.fresh hb2
          obtain ⟨A2, c2, w3, happ, hmd⟩ := hr2.app ((Below.refl _ w2).alloc (Nat.le_refl _) (.cells #[.int .u8 ((UInt8.ofNat p).toNat : Int), .int .u8 ((UInt8.ofNat q).toNat : Int)] 5)) (lit2_src w2 (UInt8.ofNat p) (UInt8.ofNat q)) (by rw [HBL.out, HBN.out]; omega)
          rw [HBL.out, HBN.out, ← HK.out] at happ hmd
          rw [byte_is hpb, byte_is hqb] at happ
          rw [← HB2'.out] at hmd
          have HAP := Bx.mk happ
          have HMD := Bx.mk hmd
          generalize b ++ [v] = b2 at *
          clear hb2 hr2 happ hmd
          go_wp2_with (at_builtin; refine wpList_append_eq rfl _ _ rfl rfl rfl rfl HAP.out ?_)
          go_roundw
          case rel => exact ⟨i + 1, b2, A2, c2, k + 2, by omega, HL2.out, by rw [HK.out]; omega, rfl, by go_num, HD2, HMD⟩
          case measure => simp [intOf]; omega
      · obtain rfl : i = n := by omega
        have hall : ps.take i = ps := List.take_of_length_le (by rw [HN.out]; exact Nat.le_refl _)
        have hd := HD.out
        rw [hall] at hd
        have HG := Bx.mk (HF.out.trans hd)
        clear hall hd
        go_wp2_with fail
        go_ret2
        refine .inr ⟨b, A', c', HG.out, ?_, ?_⟩
        · rw [HBN.out, ← HK.out]; rfl
        · rw [HBN.out, ← HK.out]
          have h1 := HM1.out
          exact ⟨ownsRow_mono HR.out.own h1.below.size, h1.below.trans (HR.out.below.mono h1.below.size)⟩

/-- the bytes of an address of sixteen, or none -/
def sB (l : Str) : Str := match six l with
  | some g => by2 g
  | none => []
theorem sB_none {l : Str} (h : six l = none) : sB l = [] := by unfold sB; rw [h]
theorem sB_some {l : Str} {g : List Nat} (h : six l = some g) : sB l = by2 g := by unfold sB; rw [h]

/-- two rows of bytes of the call's own, apart -/
structure SixI (w : World) (xs ys : Str) (va vb : Value) (wk : World) : Prop where
  a : wk.ownsRow w.heap.size 5 1 va xs.length (B8 (ints xs))
  b : wk.ownsRow w.heap.size 5 1 vb ys.length (B8 (ints ys))
  sep : ∀ x, vb.ownBlock = some x → va.ownBlock ≠ some x
  below : Below w.heap.size w wk
theorem SixI.start {w w2 w3 : World} {xs ys : Str} {va vb : Value} (h : Made w w2 va xs) (k : Made w2 w3 vb ys) : SixI w xs ys va vb w3 :=
  ⟨own_same h.own (fun g hg => k.below.block g (own_lt h.own hg).2), ownsRow_mono k.own h.below.size, fun x e1 e2 => by have := (own_lt k.own e1).1; have := (own_lt h.own e2).2; omega, h.below.trans (k.below.mono h.below.size)⟩
theorem SixI.push {w wk : World} {xs ys : Str} {A : Option Addr} {n c : Nat} {vb : Value} (h : SixI w xs ys (.slice A n c) vb wk) (hn : xs.length = n) (hl : n ≤ 1000) :
    ∃ A2 c2 w2, (Builtin.append_ #[69, 69] 69 #[.slice A n c, .slice (some ⟨wk.heap.size, 0, none⟩) 1 1]).run Tryz.prog (wk.alloc (.cells #[.int .u8 0] 5)) = .ok (.slice A2 (n + 1) c2) w2 ∧ SixI w (xs ++ [0]) ys (.slice A2 (n + 1 : Nat) c2) vb w2 := by
  subst hn
  have ha := own_same (w' := wk.alloc (.cells #[.int .u8 0] 5)) h.a (fun g hg => Below.heap_alloc _ _ _ (own_lt h.a hg).2)
  have hb := own_same (w' := wk.alloc (.cells #[.int .u8 0] 5)) h.b (fun g hg => Below.heap_alloc _ _ _ (own_lt h.b hg).2)
  obtain ⟨A2, c2, w2, happ, ho, hg, hat⟩ := append_at ha (lit1_src wk 0) (by omega) (by simp; have := h.below.size; omega)
  refine ⟨A2, c2, w2, happ, ?_, ?_, ?_, ?_⟩
  · rw [ints_app]
    have : (xs ++ [(0 : UInt8)]).length = xs.length + 1 := by simp
    rw [this]
    exact ho
  · exact own_same hb (fun g hgb => hg.block g (own_lt hb hgb).2 (fun e => h.sep g hgb e.symm))
  · intro x e1 e2
    rcases hat x e2 with e | e
    · exact h.sep x e1 e
    · have := (own_lt hb e1).2
      omega
  · exact (h.below.alloc h.below.size _).grown hg (h.below.alloc h.below.size _).size (own_ge ha)

theorem cut_len58 (l : Str) : (cut 58 l).length ≤ l.length + 1 := by
  have h1 := join_cut 58 l
  have : ∀ qs : List Str, qs.length ≤ (join 58 qs).length + 1 := fun qs => by
    induction qs with
    | nil => simp
    | cons y r ih =>
      cases r with
      | nil => simp
      | cons z r =>
        show (z :: r).length + 1 ≤ (y ++ 58 :: join 58 (z :: r)).length + 1
        rw [List.length_append, List.length_cons (a := (58 : UInt8))]
        omega
  have h2 := this (cut 58 l)
  rw [h1] at h2
  exact h2
theorem groups_len {l : Str} {a : List Nat} (h : groups l = some a) : a.length ≤ l.length + 1 := by
  unfold groups at h
  split at h
  · cases h
    simp
  · have h1 := (grps_iff.1 h).len
    have h2 := cut_len58 l
    omega

set_option maxRecDepth 100000 in
set_option maxHeartbeats 4000000 in
theorem rsix_any (l : Str) (hl : l.length ≤ 3000) (w : World) : Calls Tryz.prog 27 #[.string (S l)] w (Gives (.string (S (sB l))) w) := by
  have hsz : (S l).size = l.length := S_size l
  obtain ⟨m, hm⟩ : ∃ m, l.length = m := ⟨_, rfl⟩
  rw [hm] at hsz hl
  have HM := Bx.mk hm
  clear hm
  go_enter Tryz.func27, Tryz.ntmps27
  go_wp2
  go_loop [3] (fun s3 => ∃ i : Nat, i ≤ m ∧ s3 = .int .i64 (i : Int) ∧ Bx (∀ j, j < i → ¬ (l[j]? = some 58 ∧ l[j + 1]? = some 58))) (fun s3 => m + 1 - (intOf s3).toNat)
  case atStart => exact ⟨0, by omega, rfl, ⟨fun j h => absurd h (by omega)⟩⟩
  case round =>
    obtain ⟨i, hi, rfl, HI⟩ := hrel
    by_cases hlt : i + 1 < m
    · obtain ⟨c, hc⟩ : ∃ c, l[i]? = some c := ⟨_, List.getElem?_eq_getElem (by rw [HM.out]; omega)⟩
      obtain ⟨d, hd⟩ : ∃ d, l[i + 1]? = some d := ⟨_, List.getElem?_eq_getElem (by rw [HM.out]; omega)⟩
      have hx1 := fun W => cs_at l i c hc W
      have hx2 := fun W => cs_at l (i + 1) d hd W
      rw [show ((i + 1 : Nat) : Int) = (i : Int) + 1 by omega] at hx2
      have hcb := c.toNat_lt
      have hdb := d.toNat_lt
      by_cases hcd : c = 58 ∧ d = 58
      · obtain ⟨rfl, rfl⟩ := hcd
        have hcut := cutDC_at HI.out hc hd
        have ht := fun W => slice_to W (l.take i) (l.drop i)
        rw [List.take_append_drop, List.length_take, HM.out, show min i m = i by omega] at ht
        have hf := fun W => slice_from W (l.take (i + 1)) 58 (l.drop (i + 2))
        have hl2 : l.take (i + 1) ++ 58 :: l.drop (i + 2) = l := by
          have h1 : l.drop (i + 1) = 58 :: l.drop (i + 2) := by
            rw [List.drop_eq_getElem_cons (by rw [HM.out]; omega), (List.getElem?_eq_some_iff.1 hd).2]
          rw [← h1, List.take_append_drop]
        rw [hl2, List.length_take, HM.out, show min (i + 1) m = i + 1 by omega, show ((i + 1 : Nat) : Int) + 1 = (i : Int) + 2 by omega] at hf
        have HG1 := Bx.mk (fun W => rgroups_any (l.take i) (by rw [List.length_take]; omega) W)
        have HG2 := Bx.mk (fun W => rgroups_any (l.drop (i + 2)) (by rw [List.length_drop, HM.out]; omega) W)
        obtain ⟨P, hP⟩ : ∃ P, l.take i = P := ⟨_, rfl⟩
        obtain ⟨R, hR⟩ : ∃ R, l.drop (i + 2) = R := ⟨_, rfl⟩
        rw [hP] at HG1 ht hcut
        rw [hR] at HG2 hf hcut
        have HCUT := Bx.mk hcut
        have HPR := Bx.mk (show P.length ≤ 3000 ∧ R.length ≤ 3000 by rw [← hP, ← hR, List.length_take, List.length_drop, HM.out]; omega)
        clear hc hd hcut hl2 hP hR
        go_wp2_with fail
        refine (HG1.out _).mono ?_
        rintro e w2 (⟨hg1, rfl, hb2⟩ | ⟨a, Aa, ca, hg1, rfl, hm2⟩)
        · have HZ := Bx.mk (sB_none (l := l) (by unfold six; rw [HCUT.out]; dsimp only; rw [hg1]))
          have HB2 := Bx.mk hb2
          clear hg1 hb2
          go_wp2_with fail
          refine (HG2.out _).mono ?_
          rintro e w3 (⟨_, rfl, hb3⟩ | ⟨b, Ab, cb, _, rfl, hm3⟩)
          · have HB3 := Bx.mk (HB2.out.trans (hb3.mono HB2.out.size))
            clear hb3
            go_wp2_with fail
            go_ret
            exact ⟨by rw [HZ.out]; rfl, HB3.out⟩
          · have HB3 := Bx.mk (HB2.out.trans (hm3.below.mono HB2.out.size))
            clear hm3
            go_wp2_with fail
            go_ret
            exact ⟨by rw [HZ.out]; rfl, HB3.out⟩
        · have HM2 := Bx.mk hm2
          have HGA := Bx.mk hg1
          clear hm2 hg1
          go_wp2_with fail
          refine (HG2.out _).mono ?_
          rintro e w3 (⟨hg2, rfl, hb3⟩ | ⟨b, Ab, cb, hg2, rfl, hm3⟩)
          · have HZ := Bx.mk (sB_none (l := l) (by unfold six; rw [HCUT.out]; dsimp only; rw [HGA.out, hg2]))
            have HB3 := Bx.mk (HM2.out.below.trans (hb3.mono HM2.out.below.size))
            clear hb3 hg2
            go_wp2_with fail
            go_ret
            exact ⟨by rw [HZ.out]; rfl, HB3.out⟩
          · have hS := SixI.start HM2.out hm3
            have HS := Bx.mk hS
            have HSX := Bx.mk (show six l = if a.length + b.length > 7 then none else some (a ++ (List.replicate (8 - a.length - b.length) 0 ++ b)) by unfold six; rw [HCUT.out]; dsimp only; rw [HGA.out, hg2])
            have hpb := Nat.le_trans (groups_len HGA.out) (Nat.succ_le_succ HPR.out.1)
            have hqb := Nat.le_trans (groups_len hg2) (Nat.succ_le_succ HPR.out.2)
            obtain ⟨p, hp⟩ : ∃ p, a.length = p := ⟨_, rfl⟩
            obtain ⟨q, hq⟩ : ∃ q, b.length = q := ⟨_, rfl⟩
            rw [hp] at hpb
            rw [hq] at hqb
            have hp' := hp
            have hq' := hq
            rw [hp', hq'] at HSX HS
            rw [hp', hq']
            have HPQ := Bx.mk (And.intro hp hq)
            clear hm3 hS hg2 hp hq hp' hq'
            have hql := by2_len b
            have hpl := by2_len a
            rw [HPQ.out.1] at hpl
            rw [HPQ.out.2] at hql
            have HPL := Bx.mk hpl
            have HQL := Bx.mk hql
            clear hpl hql
            by_cases h7 : p + q > 7
            · have HZ := Bx.mk (sB_none (l := l) (by rw [HSX.out, if_pos h7]))
              have h14 : (14 : Int) < 2 * (p : Int) + 2 * (q : Int) := by omega
              go_wp2_with fail
              go_ret
              exact ⟨by rw [HZ.out]; rfl, HS.out.below⟩
            · have h0 : Bx (SixI w (by2 a ++ List.replicate 0 0) (by2 b) (.slice Aa (2 * p : Nat) ca) (.slice Ab (2 * q : Nat) cb) w3) := ⟨by rw [List.replicate_zero, List.append_nil]; exact HS.out⟩
              obtain ⟨Q, hQ⟩ : ∃ Q, Q = 2 * q := ⟨_, rfl⟩
              obtain ⟨P2, hP2⟩ : ∃ P2, P2 = 2 * p := ⟨_, rfl⟩
              rw [← hQ, ← hP2] at h0
              rw [← hQ, ← hP2]
              have HQ2 := Bx.mk hQ
              have HP2 := Bx.mk hP2
              have hPQ : P2 + Q ≤ 14 := by omega
              have h7' : p + q ≤ 7 := by omega
              clear hQ hP2 h7 HS
              go_wp2_with fail
              go_loopw [4] (fun s4 wk => ∃ (k n4 : Nat) (A' : Option Addr) (c' : Nat), s4 = .slice A' n4 c' ∧ n4 + Q ≤ 16 ∧ Bx (n4 = P2 + k) ∧ Bx (SixI w (by2 a ++ List.replicate k 0) (by2 b) (.slice A' n4 c') (.slice Ab Q cb) wk)) (fun s4 _ => 16 - (match s4 with | .slice _ n _ => n | _ => 0))
              case atStart => exact ⟨0, P2, Aa, ca, rfl, by omega, ⟨rfl⟩, h0⟩
              case round =>
                clear h0
                obtain ⟨k, n4, A', c', rfl, hn16, HK, HS⟩ := hrel
                by_cases hn : n4 + Q < 16
                · have hxl : (by2 a ++ List.replicate k (0 : UInt8)).length = n4 := by rw [List.length_append, HPL.out, List.length_replicate, HK.out, HP2.out]
                  obtain ⟨A2, c2, w4, happ, hs2⟩ := HS.out.push hxl (by omega)
                  have HAP := Bx.mk happ
                  have HS2 := Bx.mk (show SixI w (by2 a ++ List.replicate (k + 1) 0) (by2 b) (.slice A2 (n4 + 1 : Nat) c2) (.slice Ab Q cb) w4 by
                    rw [List.replicate_succ', ← List.append_assoc]
                    exact hs2)
                  have HK2 : Bx (n4 + 1 = P2 + (k + 1)) := ⟨by have := HK.out; omega⟩
                  clear hxl happ hs2 HS
                  go_wp2_with (at_builtin; refine wpList_append_eq rfl _ _ rfl rfl rfl rfl HAP.out ?_)
                  go_roundw
                  case rel => exact ⟨k + 1, n4 + 1, A2, c2, rfl, by omega, HK2, HS2⟩
                  case measure =>
                    show 16 - (n4 + 1) < 16 - n4
                    omega
                · have hxl : (by2 a ++ List.replicate k (0 : UInt8)).length = n4 := by rw [List.length_append, HPL.out, List.length_replicate, HK.out, HP2.out]
                  have hyl : (by2 b).length = Q := by rw [HQL.out, HQ2.out]
                  have ha := HS.out.a
                  have hb := HS.out.b
                  rw [hxl] at ha
                  rw [hyl] at hb
                  have hc1 := spell_str (own_spell ha)
                  have hc2 := spell_str (own_spell hb)
                  have hadd : ∀ W, (Op.stringOp .add (S (by2 a ++ List.replicate k 0)) (S (by2 b))).run Tryz.prog W = .ok (.string (S (by2 a ++ List.replicate k 0 ++ by2 b))) W := fun W => add_str W _ _ (by omega) (by omega)
                  have hres : S (sB l) = S (by2 a ++ List.replicate k 0 ++ by2 b) := by
                    rw [sB_some (l := l) (g := a ++ (List.replicate (8 - p - q) 0 ++ b)) (by rw [HSX.out, if_neg (by omega)]), by2_append, by2_append, by2_noughts, List.append_assoc]
                    rw [show 2 * (8 - p - q) = k by have := HK.out; have := HP2.out; have := HQ2.out; omega]
                  have HRES := Bx.mk hres
                  have HBB := Bx.mk HS.out.below
                  generalize S (by2 a ++ List.replicate k 0 ++ by2 b) = z at *
                  generalize S (by2 a ++ List.replicate k 0) = z1 at *
                  generalize S (by2 b) = z2 at *
                  clear hxl hyl ha hb hres HS
                  go_wp2_with fail
                  go_ret
                  exact ⟨by rw [HRES.out]; rfl, HBB.out⟩
      · have HI2 : Bx (∀ j, j < i + 1 → ¬ (l[j]? = some 58 ∧ l[j + 1]? = some 58)) := ⟨fun j hj => by
          rcases Nat.lt_or_ge j i with h | h
          · exact HI.out j h
          · obtain rfl : j = i := by omega
            rintro ⟨e1, e2⟩
            rw [hc] at e1
            rw [hd] at e2
            exact hcd ⟨Option.some.inj e1, Option.some.inj e2⟩⟩
        by_cases h1 : c = 58
        · have h2 : d ≠ 58 := fun e => hcd ⟨h1, e⟩
          have e1 : ((c.toNat : Int) != 58) = false := by rw [h1]; rfl
          have e2 : ((d.toNat : Int) != 58) = true := bne_iff_ne.2 fun e => h2 (UInt8.toNat_inj.1 (by show d.toNat = 58; omega))
          clear hc hd hcd h1 h2 HI
          go_wp2_with fail
          go_round
          case rel => first | exact ⟨i + 1, by omega, by go_num, HI2⟩ | ((repeat apply Exists.intro); exact ⟨⟨i + 1, by omega, by go_num, HI2⟩, rfl⟩)
          case measure => simp [intOf]; omega
        · have e1 : ((c.toNat : Int) != 58) = true := bne_iff_ne.2 fun e => h1 (UInt8.toNat_inj.1 (by show c.toNat = 58; omega))
          clear hc hd hcd h1 HI
          go_wp2_with fail
          go_round
          case rel => first | exact ⟨i + 1, by omega, by go_num, HI2⟩ | ((repeat apply Exists.intro); exact ⟨⟨i + 1, by omega, by go_num, HI2⟩, rfl⟩)
          case measure => simp [intOf]; omega
    · have hcut : cutDC l = none := cutDC_no fun j => by
        rcases Nat.lt_or_ge j i with h | h
        · exact HI.out j h
        · rintro ⟨_, e2⟩
          have := (List.getElem?_eq_some_iff.1 e2).1
          rw [HM.out] at this
          omega
      have HSX := Bx.mk (show six l = (match groups l with | some a => if a.length = 8 then some a else none | none => none) by unfold six; rw [hcut]; rfl)
      have HG := Bx.mk (rgroups_any l (by rw [HM.out]; omega) w)
      clear hcut HI
      go_wp2_with fail
      refine HG.out.mono ?_
      rintro e w2 (⟨hg, rfl, hb2⟩ | ⟨a, Aa, ca, hg, rfl, hm2⟩)
      · have HZ := Bx.mk (sB_none (l := l) (by rw [HSX.out, hg]))
        have HB2 := Bx.mk hb2
        clear hg hb2
        go_wp2_with fail
        go_ret
        exact ⟨by rw [HZ.out]; rfl, HB2.out⟩
      · have HM2 := Bx.mk hm2
        have hpb := Nat.le_trans (groups_len hg) (Nat.succ_le_succ (show l.length ≤ 3000 by rw [HM.out]; omega))
        obtain ⟨p, hp⟩ : ∃ p, a.length = p := ⟨_, rfl⟩
        rw [hp] at hpb
        have HPp := Bx.mk hp
        rw [hp] at HM2
        rw [hp]
        by_cases h8 : p = 8
        · subst h8
          have hz := sB_some (l := l) (g := a) (by rw [HSX.out, hg]; dsimp only; rw [if_pos HPp.out])
          have hal : (by2 a).length = 16 := by rw [by2_len, HPp.out]
          have how := HM2.out.own
          rw [hal] at how
          have hc1 := spell_str (own_spell how)
          have HZ := Bx.mk (show S (sB l) = S (by2 a) by rw [hz])
          have HBB := Bx.mk HM2.out.below
          generalize S (by2 a) = z at *
          clear hz hal how hg hm2 hp HM2
          go_wp2_with fail
          go_ret
          exact ⟨by rw [HZ.out]; rfl, HBB.out⟩
        · have HZ := Bx.mk (sB_none (l := l) (by rw [HSX.out, hg]; dsimp only; rw [if_neg (by rw [HPp.out]; exact h8)]))
          have e16 : ((2 : Int) * (p : Int) != 16) = true := bne_iff_ne.2 (by omega)
          clear hg hm2 hp
          go_wp2_with fail
          go_ret
          exact ⟨by rw [HZ.out]; rfl, HM2.out.below⟩

/-- what Parse makes of a kind and a text -/
def pk (k : Nat) (t : Str) : Option H := if may ⟨k, t⟩ then some ⟨k, t⟩ else none
theorem pk_six {l : Str} (h : 58 ∈ low l) : parse l = pk 2 (sB (low l)) := by
  unfold parse pk
  rw [if_pos h]
  rcases hs : six (low l) with _ | g
  · rw [sB_none hs]
    rfl
  · have hl : (by2 g).length = 16 := by rw [by2_len, (six_some hs).1]
    rw [sB_some hs, if_pos (may_iff.2 (.inr (.inl ⟨rfl, hl⟩)))]
    rfl
theorem pk_four {l : Str} (h : 58 ∉ low l) (h2 : low l ≠ [] ∧ (low l).all dd = true) : parse l = pk 1 (fB (low l)) := by
  unfold parse pk
  rw [if_neg h, if_pos h2]
  rcases hs : four (low l) with _ | b
  · rw [fB_none hs]
    rfl
  · have hl : (b.map UInt8.ofNat).length = 4 := by rw [List.length_map, (four_iff.1 hs).1]
    rw [fB_some hs, if_pos (may_iff.2 (.inl ⟨rfl, hl⟩))]
    rfl
theorem pk_name {l : Str} (h : 58 ∉ low l) (h2 : ¬ (low l ≠ [] ∧ (low l).all dd = true)) : parse l = pk 3 (low l) := by
  unfold parse pk
  rw [if_neg h, if_neg h2]
  by_cases hn : nameB (low l) = true
  · rw [if_pos hn, if_pos (may_iff.2 (.inr (.inr ⟨rfl, hn⟩)))]
  · rw [if_neg hn, if_neg]
    intro hm
    rcases may_iff.1 hm with h | h | h
    · exact absurd h.1 (show ¬ (3 = 1) by decide)
    · exact absurd h.1 (show ¬ (3 = 2) by decide)
    · exact hn h.2
theorem results_rparse {W : World} {h : Nat} {k : Int} {t : ByteArray} (hl : Lies W h 23 #[.int .u8 k, .string t]) (tmps : Array Value) (h2 : tmps[2]?.getD undef = .pointer (some ⟨h, 0, none⟩)) {v3 : Value} (h3 : tmps[3]?.getD undef = v3) :
    (results Tryz.f9 tmps).run Tryz.prog W = .ok (.tuple #[hv k t, v3]) W := by
  have c0 := hl.cell 0
  have c1 := hl.cell 1
  simp at c0 c1
  unfold hv
  simp [results, Tryz.results9, go_sem, h2, h3, c0, c1]

set_option maxRecDepth 100000 in
set_option maxHeartbeats 4000000 in
theorem rparse_any (l : Str) (hl : l.length ≤ 3000) (w : World) : Calls Tryz.prog 9 #[.string (S l)] w (Gives (HPv (parse l)) w) := by
  have HLW := Bx.mk (fun W => rlower_any l hl W)
  obtain ⟨u, hu⟩ : ∃ u, low l = u := ⟨_, rfl⟩
  have hul : u.length ≤ 3000 := by rw [← hu, low_length]; exact hl
  have hsz : (S u).size = u.length := S_size u
  have HP2 := Bx.mk (fun h => pk_six (l := l) h)
  have HP1 := Bx.mk (fun h h2 => pk_four (l := l) h h2)
  have HP3 := Bx.mk (fun h h2 => pk_name (l := l) h h2)
  rw [hu] at HLW HP2 HP1 HP3
  obtain ⟨m, hm⟩ : ∃ m, u.length = m := ⟨_, rfl⟩
  rw [hm] at hsz hul
  have HM := Bx.mk hm
  have HRS := Bx.mk (rsix_any u (by omega))
  have HRF := Bx.mk (rfour_any u (by omega))
  have HDG := Bx.mk rdigit_any
  obtain ⟨hb, hhb⟩ : ∃ b, b = w.heap.size := ⟨_, rfl⟩
  obtain ⟨w0, hw0⟩ : ∃ v, v = w.alloc (.cells #[.int .u8 0, .string ⟨#[]⟩] 23) := ⟨_, rfl⟩
  have HL0 := Bx.mk (show Lies w0 hb 23 #[.int .u8 0, .string ⟨#[]⟩] by rw [hw0, hhb]; exact Lies.new _ _ _)
  have HB0 := Bx.mk (show Below w.heap.size w w0 by rw [hw0]; exact (Below.refl _ w).alloc (Nat.le_refl _) _)
  have HHB := Bx.mk (show w.heap.size ≤ hb by omega)
  clear hu hm
  go_enter Tryz.func9, Tryz.ntmps9
  go_wp2_with fail
  rw [← hw0, ← hhb]
  clear hw0 hhb
  refine (HLW.out _).mono ?_
  rintro e w1 ⟨rfl, hb1⟩
  have HB1 := Bx.mk (HB0.out.trans (hb1.mono HB0.out.size))
  have HL1 := Bx.mk (HL0.out.below hb1 HL0.out.lt)
  clear hb1 HLW HB0 HL0
  obtain ⟨m0, hm0⟩ : ∃ m0 : Bool, decide (0 < m) = m0 := ⟨_, rfl⟩
  have hm0i : decide ((0 : Int) < (m : Int)) = m0 := by rw [← hm0]; simp
  have HM0 := Bx.mk hm0
  clear hm0
  go_wp2_with fail
  go_loop [4, 5, 6] (fun s4 s5 s6 => ∃ (i : Nat) (b1 b2 : Bool), i ≤ m ∧ s4 = .bool b1 ∧ s5 = .bool b2 ∧ s6 = .int .i64 (i : Int) ∧ Bx (b1 = decide (58 ∈ u.take i)) ∧ Bx (b2 = (m0 && (u.take i).all dd))) (fun _ _ s6 => m - (intOf s6).toNat)
  case atStart => exact ⟨0, false, m0, by omega, rfl, by first | rfl | exact congrArg Value.bool HM0.out | exact congrArg Value.bool hm0i, rfl, ⟨by simp⟩, ⟨by simp⟩⟩
  case round =>
    clear hm0i
    obtain ⟨i, b1, b2, hi, rfl, rfl, rfl, H1, H2⟩ := hrel
    by_cases him : i < m
    · obtain ⟨c, hc⟩ : ∃ c, u[i]? = some c := ⟨_, List.getElem?_eq_getElem (by rw [HM.out]; exact him)⟩
      have hix := fun W => cs_at u i c hc W
      have htk : u.take (i + 1) = u.take i ++ [c] := by rw [List.take_add_one, hc]; rfl
      have hcb := c.toNat_lt
      obtain ⟨k58, h58⟩ : ∃ k : Bool, decide (c = 58) = k := ⟨_, rfl⟩
      obtain ⟨k46, h46⟩ : ∃ k : Bool, decide (c = 46) = k := ⟨_, rfl⟩
      obtain ⟨kd, hd⟩ : ∃ k : Bool, dig c = k := ⟨_, rfl⟩
      have e58 : ((c.toNat : Int) == 58) = k58 := by
        rw [← h58]
        rw [Bool.eq_iff_iff, beq_iff_eq, decide_eq_true_iff]
        exact ⟨fun e => UInt8.toNat_inj.1 (by show c.toNat = 58; omega), fun e => by rw [e]; rfl⟩
      have e46 : ((c.toNat : Int) == 46) = k46 := by
        rw [← h46]
        rw [Bool.eq_iff_iff, beq_iff_eq, decide_eq_true_iff]
        exact ⟨fun e => UInt8.toNat_inj.1 (by show c.toNat = 46; omega), fun e => by rw [e]; rfl⟩
      have hdg := fun W => HDG.out c W
      rw [hd] at hdg
      have HD := Bx.mk hdg
      have N1 : Bx ((b1 || k58) = decide (58 ∈ u.take (i + 1))) := ⟨by
        rw [htk, H1.out, ← h58, Bool.eq_iff_iff, Bool.or_eq_true, decide_eq_true_iff, decide_eq_true_iff, decide_eq_true_iff, List.mem_append, List.mem_singleton]
        exact or_congr Iff.rfl ⟨Eq.symm, Eq.symm⟩⟩
      have N2 : Bx ((b2 && (kd || k46)) = (m0 && (u.take (i + 1)).all dd)) := ⟨by
        rw [htk, H2.out, List.all_append, ← hd, ← h46]
        simp [dd, Bool.and_assoc]⟩
      clear hc htk h58 h46 hd hdg H1 H2
      cases b1 <;> cases b2 <;> cases kd
      all_goals
        go_wp2_with ((with_reducible refine (HD.out _).mono ?_); rintro e w' ⟨rfl, rfl⟩)
        go_round
        case rel => exact ⟨i + 1, _, _, by omega, rfl, rfl, by go_num, by simpa using N1, by simpa using N2⟩
        case measure => simp [intOf]; omega
    · obtain rfl : i = m := by omega
      have hall : u.take i = u := List.take_of_length_le (by rw [HM.out]; exact Nat.le_refl _)
      rw [hall] at H1 H2
      clear hall
      cases b1 with
      | true =>
        have hmem : 58 ∈ u := of_decide_eq_true H1.out.symm
        obtain ⟨v5, hv5⟩ : ∃ v, v = w1.alloc (.cells #[.int .u8 3, .string (S u)] 23) := ⟨_, rfl⟩
        obtain ⟨q, hq⟩ : ∃ b, b = w1.heap.size := ⟨_, rfl⟩
        have HB5 := Bx.mk (show Below w.heap.size w v5 by rw [hv5]; exact HB1.out.alloc HB1.out.size _)
        have HL5 := Bx.mk (show Lies v5 hb 23 #[.int .u8 0, .string ⟨#[]⟩] by rw [hv5]; exact HL1.out.alloc _)
        have HQ5 := Bx.mk (show Lies v5 q 23 #[.int .u8 3, .string (S u)] by rw [hv5, hq]; exact Lies.new _ _ _)
        have HNE := Bx.mk (show hb ≠ q ∧ w.heap.size ≤ q by have := HL1.out.lt; have := HB1.out.size; omega)
        clear HB1 HL1
        go_upto_region 9 with fail
        rw [← hv5, ← hq]
        clear hv5 hq
        go_wp2_with fail
        refine (HRS.out _).mono ?_
        rintro e w6 ⟨rfl, hb6⟩
        have hl6 := HL5.out.below hb6 HL5.out.lt
        have hq6 := HQ5.out.below hb6 HQ5.out.lt
        have HB6 := Bx.mk (HB5.out.trans (hb6.mono HB5.out.size))
        have s0 := hq6.cell 0
        have s1 := hq6.cell 1
        have g0 := hq6.frozen 0
        have g1 := hq6.frozen 1
        simp at s0 s1
        have hq7 := (hq6.set 0 (.int .u8 2)).set 1 (.string (S (sB u)))
        simp only [List.setIfInBounds_toArray, List.set_cons_zero, List.set_cons_succ] at hq7
        have hl7 := (hl6.far (p := ⟨q, 0, none⟩) HNE.out.1 (.int .u8 2)).far (p := ⟨q, 1, none⟩) HNE.out.1 (.string (S (sB u)))
        have hb7 := (HB6.out.setCell (p := ⟨q, 0, none⟩) HNE.out.2 (.int .u8 2)).setCell (p := ⟨q, 1, none⟩) HNE.out.2 (.string (S (sB u)))
        obtain ⟨v7, hv7⟩ : ∃ v, v = (w6.setCell ⟨q, 0, none⟩ (.int .u8 2)).setCell ⟨q, 1, none⟩ (.string (S (sB u))) := ⟨_, rfl⟩
        rw [← hv7] at hq7 hl7 hb7
        have HQv := Bx.mk hq7
        have HLv := Bx.mk hl7
        have HBv := Bx.mk hb7
        clear hb6 hl6 hq6 hq7 hl7 hb7 HL5 HQ5 HB5 HB6
        go_upto_region 13 with fail
        rw [← hv7]
        clear hv7 s0 s1 g0 g1
        have hmay := fun W => rmay_any 2 (S (sB u)) (by omega) W
        unfold hv hh at hmay
        rw [S_list] at hmay
        have HPK := Bx.mk (HP2.out hmem)
        obtain ⟨bm, hbm⟩ : ∃ bm, may ⟨2, sB u⟩ = bm := ⟨_, rfl⟩
        have HMAY := Bx.mk (show ∀ W, Calls Tryz.prog 29 #[.agg #[.int .u8 2, .string (S (sB u))]] W (Gives (.bool bm) W) from fun W => by have h := hmay W; rw [show ((2 : Int).toNat) = 2 from rfl, hbm] at h; exact h)
        have HBM := Bx.mk hbm
        clear hmay hbm
        cases bm with
        | true =>
          have HR := Bx.mk (show HPv (parse l) = .tuple #[hv 2 (S (sB u)), .int .i64 0] by rw [HPK.out]; unfold pk; rw [if_pos HBM.out]; rfl)
          generalize S (sB u) = z at *
          have q0 := HQv.out.cell 0
          have q1 := HQv.out.cell 1
          simp at q0 q1
          go_wp2_with fail
          refine (HMAY.out _).mono ?_
          rintro e w9 ⟨rfl, hb9⟩
          have hq9 := HQv.out.below hb9 HQv.out.lt
          have hl9 := HLv.out.below hb9 HLv.out.lt
          have HB9 := Bx.mk (HBv.out.trans (hb9.mono HBv.out.size))
          clear hb9 q0 q1
          have q0 := hq9.cell 0
          have q1 := hq9.cell 1
          have r0 := hl9.cell 0
          have r1 := hl9.cell 1
          have f0 := hl9.frozen 0
          have f1 := hl9.frozen 1
          simp at q0 q1 r0 r1
          have hfin := (hl9.set 0 (.int .u8 2)).set 1 (.string z)
          simp only [List.setIfInBounds_toArray, List.set_cons_zero, List.set_cons_succ] at hfin
          have HFIN := Bx.mk hfin
          have HBF := Bx.mk ((HB9.out.setCell (p := ⟨hb, 0, none⟩) HHB.out (.int .u8 2)).setCell (p := ⟨hb, 1, none⟩) HHB.out (.string z))
          clear hfin hq9 hl9
          go_wp2_with fail
          exact bodyPost_ret (results_rparse HFIN.out _ rfl rfl) rfl ⟨by rw [HR.out]; rfl, HBF.out⟩
        | false =>
          have HR := Bx.mk (show HPv (parse l) = .tuple #[hv 0 ⟨#[]⟩, .int .i64 40] by rw [HPK.out]; unfold pk; rw [if_neg (by rw [HBM.out]; simp)]; rfl)
          generalize S (sB u) = z at *
          have q0 := HQv.out.cell 0
          have q1 := HQv.out.cell 1
          simp at q0 q1
          go_wp2_with fail
          refine (HMAY.out _).mono ?_
          rintro e w9 ⟨rfl, hb9⟩
          have hl9 := HLv.out.below hb9 HLv.out.lt
          have HB9 := Bx.mk (HBv.out.trans (hb9.mono HBv.out.size))
          clear hb9 q0 q1
          have r0 := hl9.cell 0
          have r1 := hl9.cell 1
          have f0 := hl9.frozen 0
          have f1 := hl9.frozen 1
          simp at r0 r1
          have hfin := (hl9.set 0 (.int .u8 0)).set 1 (.string ⟨#[]⟩)
          simp only [List.setIfInBounds_toArray, List.set_cons_zero, List.set_cons_succ] at hfin
          have HFIN := Bx.mk hfin
          have HBF := Bx.mk ((HB9.out.setCell (p := ⟨hb, 0, none⟩) HHB.out (.int .u8 0)).setCell (p := ⟨hb, 1, none⟩) HHB.out (.string ⟨#[]⟩))
          clear hfin hl9
          go_wp2_with fail
          exact bodyPost_ret (results_rparse HFIN.out _ rfl rfl) rfl ⟨by rw [HR.out]; rfl, HBF.out⟩
      | false =>
        have hmem : 58 ∉ u := of_decide_eq_false H1.out.symm
        cases b2 with
        | true =>
          have hpl : u ≠ [] ∧ u.all dd = true := by
            have h := H2.out
            rw [← HM0.out] at h
            have h' := Bool.and_eq_true_iff.1 h.symm
            have hpos := of_decide_eq_true h'.1
            exact ⟨fun e => by rw [e] at HM; have := HM.out; simp at this; omega, h'.2⟩
          obtain ⟨v5, hv5⟩ : ∃ v, v = w1.alloc (.cells #[.int .u8 3, .string (S u)] 23) := ⟨_, rfl⟩
          obtain ⟨q, hq⟩ : ∃ b, b = w1.heap.size := ⟨_, rfl⟩
          have HB5 := Bx.mk (show Below w.heap.size w v5 by rw [hv5]; exact HB1.out.alloc HB1.out.size _)
          have HL5 := Bx.mk (show Lies v5 hb 23 #[.int .u8 0, .string ⟨#[]⟩] by rw [hv5]; exact HL1.out.alloc _)
          have HQ5 := Bx.mk (show Lies v5 q 23 #[.int .u8 3, .string (S u)] by rw [hv5, hq]; exact Lies.new _ _ _)
          have HNE := Bx.mk (show hb ≠ q ∧ w.heap.size ≤ q by have := HL1.out.lt; have := HB1.out.size; omega)
          clear HB1 HL1
          go_upto_region 9 with fail
          rw [← hv5, ← hq]
          clear hv5 hq
          go_wp2_with fail
          refine (HRF.out _).mono ?_
          rintro e w6 ⟨rfl, hb6⟩
          have hl6 := HL5.out.below hb6 HL5.out.lt
          have hq6 := HQ5.out.below hb6 HQ5.out.lt
          have HB6 := Bx.mk (HB5.out.trans (hb6.mono HB5.out.size))
          have s0 := hq6.cell 0
          have s1 := hq6.cell 1
          have g0 := hq6.frozen 0
          have g1 := hq6.frozen 1
          simp at s0 s1
          have hq7 := (hq6.set 0 (.int .u8 1)).set 1 (.string (S (fB u)))
          simp only [List.setIfInBounds_toArray, List.set_cons_zero, List.set_cons_succ] at hq7
          have hl7 := (hl6.far (p := ⟨q, 0, none⟩) HNE.out.1 (.int .u8 1)).far (p := ⟨q, 1, none⟩) HNE.out.1 (.string (S (fB u)))
          have hb7 := (HB6.out.setCell (p := ⟨q, 0, none⟩) HNE.out.2 (.int .u8 1)).setCell (p := ⟨q, 1, none⟩) HNE.out.2 (.string (S (fB u)))
          obtain ⟨v7, hv7⟩ : ∃ v, v = (w6.setCell ⟨q, 0, none⟩ (.int .u8 1)).setCell ⟨q, 1, none⟩ (.string (S (fB u))) := ⟨_, rfl⟩
          rw [← hv7] at hq7 hl7 hb7
          have HQv := Bx.mk hq7
          have HLv := Bx.mk hl7
          have HBv := Bx.mk hb7
          clear hb6 hl6 hq6 hq7 hl7 hb7 HL5 HQ5 HB5 HB6
          go_upto_region 13 with fail
          rw [← hv7]
          clear hv7 s0 s1 g0 g1
          have hmay := fun W => rmay_any 1 (S (fB u)) (by omega) W
          unfold hv hh at hmay
          rw [S_list] at hmay
          have HPK := Bx.mk (HP1.out hmem hpl)
          obtain ⟨bm, hbm⟩ : ∃ bm, may ⟨1, fB u⟩ = bm := ⟨_, rfl⟩
          have HMAY := Bx.mk (show ∀ W, Calls Tryz.prog 29 #[.agg #[.int .u8 1, .string (S (fB u))]] W (Gives (.bool bm) W) from fun W => by have h := hmay W; rw [show ((1 : Int).toNat) = 1 from rfl, hbm] at h; exact h)
          have HBM := Bx.mk hbm
          clear hmay hbm
          cases bm with
          | true =>
            have HR := Bx.mk (show HPv (parse l) = .tuple #[hv 1 (S (fB u)), .int .i64 0] by rw [HPK.out]; unfold pk; rw [if_pos HBM.out]; rfl)
            generalize S (fB u) = z at *
            have q0 := HQv.out.cell 0
            have q1 := HQv.out.cell 1
            simp at q0 q1
            go_wp2_with fail
            refine (HMAY.out _).mono ?_
            rintro e w9 ⟨rfl, hb9⟩
            have hq9 := HQv.out.below hb9 HQv.out.lt
            have hl9 := HLv.out.below hb9 HLv.out.lt
            have HB9 := Bx.mk (HBv.out.trans (hb9.mono HBv.out.size))
            clear hb9 q0 q1
            have q0 := hq9.cell 0
            have q1 := hq9.cell 1
            have r0 := hl9.cell 0
            have r1 := hl9.cell 1
            have f0 := hl9.frozen 0
            have f1 := hl9.frozen 1
            simp at q0 q1 r0 r1
            have hfin := (hl9.set 0 (.int .u8 1)).set 1 (.string z)
            simp only [List.setIfInBounds_toArray, List.set_cons_zero, List.set_cons_succ] at hfin
            have HFIN := Bx.mk hfin
            have HBF := Bx.mk ((HB9.out.setCell (p := ⟨hb, 0, none⟩) HHB.out (.int .u8 1)).setCell (p := ⟨hb, 1, none⟩) HHB.out (.string z))
            clear hfin hq9 hl9
            go_wp2_with fail
            exact bodyPost_ret (results_rparse HFIN.out _ rfl rfl) rfl ⟨by rw [HR.out]; rfl, HBF.out⟩
          | false =>
            have HR := Bx.mk (show HPv (parse l) = .tuple #[hv 0 ⟨#[]⟩, .int .i64 40] by rw [HPK.out]; unfold pk; rw [if_neg (by rw [HBM.out]; simp)]; rfl)
            generalize S (fB u) = z at *
            have q0 := HQv.out.cell 0
            have q1 := HQv.out.cell 1
            simp at q0 q1
            go_wp2_with fail
            refine (HMAY.out _).mono ?_
            rintro e w9 ⟨rfl, hb9⟩
            have hl9 := HLv.out.below hb9 HLv.out.lt
            have HB9 := Bx.mk (HBv.out.trans (hb9.mono HBv.out.size))
            clear hb9 q0 q1
            have r0 := hl9.cell 0
            have r1 := hl9.cell 1
            have f0 := hl9.frozen 0
            have f1 := hl9.frozen 1
            simp at r0 r1
            have hfin := (hl9.set 0 (.int .u8 0)).set 1 (.string ⟨#[]⟩)
            simp only [List.setIfInBounds_toArray, List.set_cons_zero, List.set_cons_succ] at hfin
            have HFIN := Bx.mk hfin
            have HBF := Bx.mk ((HB9.out.setCell (p := ⟨hb, 0, none⟩) HHB.out (.int .u8 0)).setCell (p := ⟨hb, 1, none⟩) HHB.out (.string ⟨#[]⟩))
            clear hfin hl9
            go_wp2_with fail
            exact bodyPost_ret (results_rparse HFIN.out _ rfl rfl) rfl ⟨by rw [HR.out]; rfl, HBF.out⟩
        | false =>
          have hpl : ¬ (u ≠ [] ∧ u.all dd = true) := by
            rintro ⟨h1, h2⟩
            have h := H2.out
            rw [← HM0.out, h2, Bool.and_true] at h
            have := of_decide_eq_false h.symm
            exact h1 (List.eq_nil_of_length_eq_zero (by rw [HM.out]; omega))
          obtain ⟨v5, hv5⟩ : ∃ v, v = w1.alloc (.cells #[.int .u8 3, .string (S u)] 23) := ⟨_, rfl⟩
          obtain ⟨q, hq⟩ : ∃ b, b = w1.heap.size := ⟨_, rfl⟩
          have HBv := Bx.mk (show Below w.heap.size w v5 by rw [hv5]; exact HB1.out.alloc HB1.out.size _)
          have HLv := Bx.mk (show Lies v5 hb 23 #[.int .u8 0, .string ⟨#[]⟩] by rw [hv5]; exact HL1.out.alloc _)
          have HQv := Bx.mk (show Lies v5 q 23 #[.int .u8 3, .string (S u)] by rw [hv5, hq]; exact Lies.new _ _ _)
          clear HB1 HL1
          go_upto_region 13 with fail
          rw [← hv5, ← hq]
          clear hv5 hq
          have hmay := fun W => rmay_any 3 (S (u)) (by omega) W
          unfold hv hh at hmay
          rw [S_list] at hmay
          have HPK := Bx.mk (HP3.out hmem hpl)
          obtain ⟨bm, hbm⟩ : ∃ bm, may ⟨3, u⟩ = bm := ⟨_, rfl⟩
          have HMAY := Bx.mk (show ∀ W, Calls Tryz.prog 29 #[.agg #[.int .u8 3, .string (S (u))]] W (Gives (.bool bm) W) from fun W => by have h := hmay W; rw [show ((3 : Int).toNat) = 3 from rfl, hbm] at h; exact h)
          have HBM := Bx.mk hbm
          clear hmay hbm
          cases bm with
          | true =>
            have HR := Bx.mk (show HPv (parse l) = .tuple #[hv 3 (S (u)), .int .i64 0] by rw [HPK.out]; unfold pk; rw [if_pos HBM.out]; rfl)
            generalize S (u) = z at *
            have q0 := HQv.out.cell 0
            have q1 := HQv.out.cell 1
            simp at q0 q1
            go_wp2_with fail
            refine (HMAY.out _).mono ?_
            rintro e w9 ⟨rfl, hb9⟩
            have hq9 := HQv.out.below hb9 HQv.out.lt
            have hl9 := HLv.out.below hb9 HLv.out.lt
            have HB9 := Bx.mk (HBv.out.trans (hb9.mono HBv.out.size))
            clear hb9 q0 q1
            have q0 := hq9.cell 0
            have q1 := hq9.cell 1
            have r0 := hl9.cell 0
            have r1 := hl9.cell 1
            have f0 := hl9.frozen 0
            have f1 := hl9.frozen 1
            simp at q0 q1 r0 r1
            have hfin := (hl9.set 0 (.int .u8 3)).set 1 (.string z)
            simp only [List.setIfInBounds_toArray, List.set_cons_zero, List.set_cons_succ] at hfin
            have HFIN := Bx.mk hfin
            have HBF := Bx.mk ((HB9.out.setCell (p := ⟨hb, 0, none⟩) HHB.out (.int .u8 3)).setCell (p := ⟨hb, 1, none⟩) HHB.out (.string z))
            clear hfin hq9 hl9
            go_wp2_with fail
            exact bodyPost_ret (results_rparse HFIN.out _ rfl rfl) rfl ⟨by rw [HR.out]; rfl, HBF.out⟩
          | false =>
            have HR := Bx.mk (show HPv (parse l) = .tuple #[hv 0 ⟨#[]⟩, .int .i64 40] by rw [HPK.out]; unfold pk; rw [if_neg (by rw [HBM.out]; simp)]; rfl)
            generalize S (u) = z at *
            have q0 := HQv.out.cell 0
            have q1 := HQv.out.cell 1
            simp at q0 q1
            go_wp2_with fail
            refine (HMAY.out _).mono ?_
            rintro e w9 ⟨rfl, hb9⟩
            have hl9 := HLv.out.below hb9 HLv.out.lt
            have HB9 := Bx.mk (HBv.out.trans (hb9.mono HBv.out.size))
            clear hb9 q0 q1
            have r0 := hl9.cell 0
            have r1 := hl9.cell 1
            have f0 := hl9.frozen 0
            have f1 := hl9.frozen 1
            simp at r0 r1
            have hfin := (hl9.set 0 (.int .u8 0)).set 1 (.string ⟨#[]⟩)
            simp only [List.setIfInBounds_toArray, List.set_cons_zero, List.set_cons_succ] at hfin
            have HFIN := Bx.mk hfin
            have HBF := Bx.mk ((HB9.out.setCell (p := ⟨hb, 0, none⟩) HHB.out (.int .u8 0)).setCell (p := ⟨hb, 1, none⟩) HHB.out (.string ⟨#[]⟩))
            clear hfin hl9
            go_wp2_with fail
            exact bodyPost_ret (results_rparse HFIN.out _ rfl rfl) rfl ⟨by rw [HR.out]; rfl, HBF.out⟩

/-- the last colon among the first i bytes -/
def LI (l : Str) (i : Nat) (a : Int) : Prop := (a = -1 ∧ ∀ j : Nat, j < i → l[j]? ≠ some 58) ∨ ∃ q : Nat, a = (q : Int) ∧ q < i ∧ l[q]? = some 58 ∧ ∀ j, q < j → j < i → l[j]? ≠ some 58
theorem LI.next {l : Str} {i : Nat} {a : Int} {c : UInt8} (h : LI l i a) (hc : l[i]? = some c) (hne : c ≠ 58) : LI l (i + 1) a := by
  have hi : l[i]? ≠ some 58 := fun e => hne (Option.some.inj (hc.symm.trans e))
  rcases h with ⟨h1, h2⟩ | ⟨q, h1, h2, h3, h4⟩
  · exact .inl ⟨h1, fun j hj => by
      rcases Nat.lt_or_ge j i with h | h
      · exact h2 j h
      · obtain rfl : j = i := by omega
        exact hi⟩
  · exact .inr ⟨q, h1, by omega, h3, fun j h5 hj => by
      rcases Nat.lt_or_ge j i with h | h
      · exact h4 j h5 h
      · obtain rfl : j = i := by omega
        exact hi⟩
theorem LI.hit {l : Str} {i : Nat} (hc : l[i]? = some 58) : LI l (i + 1) (i : Int) := .inr ⟨i, rfl, by omega, hc, fun j h1 h2 => by omega⟩
theorem LI.range {l : Str} {i : Nat} {a : Int} (h : LI l i a) : -1 ≤ a ∧ a < (i : Int) ∨ a = -1 := by
  rcases h with ⟨h1, _⟩ | ⟨q, h1, h2, _⟩
  · exact .inr h1
  · exact .inl (by omega)
theorem results_rpt {W : World} {h : Nat} {k q : Int} {t : ByteArray} (hl : Lies W h 30 #[.int .u8 k, .string t, .int .i64 q]) (tmps : Array Value) (h2 : tmps[2]?.getD undef = .pointer (some ⟨h, 0, none⟩)) {v3 : Value} (h3 : tmps[3]?.getD undef = v3) :
    (results Tryz.f11 tmps).run Tryz.prog W = .ok (.tuple #[tv k t q, v3]) W := by
  have c0 := hl.cell 0
  have c1 := hl.cell 1
  have c2 := hl.cell 2
  simp at c0 c1 c2
  unfold tv
  simp [results, Tryz.results11, go_sem, h2, h3, c0, c1, c2]
theorem PTv_no {l : Str} (h : parseT l = none) : PTv (parseT l) = .tuple #[tv 0 ⟨#[]⟩ 0, .int .i64 40] := by rw [h]; rfl

set_option maxRecDepth 100000 in
set_option maxHeartbeats 4000000 in
theorem rparseTarget_any (l : Str) (hl : l.length ≤ 3000) (w : World) : Calls Tryz.prog 11 #[.string (S l)] w (Gives (PTv (parseT l)) w) := by
  have hsz : (S l).size = l.length := S_size l
  obtain ⟨m, hm⟩ : ∃ m, l.length = m := ⟨_, rfl⟩
  rw [hm] at hsz hl
  have HM := Bx.mk hm
  obtain ⟨hb, hhb⟩ : ∃ b, b = w.heap.size := ⟨_, rfl⟩
  obtain ⟨w0, hw0⟩ : ∃ v, v = w.alloc (.cells #[.int .u8 0, .string ⟨#[]⟩, .int .i64 0] 30) := ⟨_, rfl⟩
  have HLv := Bx.mk (show Lies w0 hb 30 #[.int .u8 0, .string ⟨#[]⟩, .int .i64 0] by rw [hw0, hhb]; exact Lies.new _ _ _)
  have HBv := Bx.mk (show Below w.heap.size w w0 by rw [hw0]; exact (Below.refl _ w).alloc (Nat.le_refl _) _)
  have HHB := Bx.mk (show w.heap.size ≤ hb by omega)
  clear hm
  go_enter Tryz.func11, Tryz.ntmps11
  go_upto_region 1 with fail
  rw [← hw0, ← hhb]
  clear hw0 hhb
  go_wp2_with fail
  go_loop [4, 5] (fun s4 s5 => ∃ (i : Nat) (a : Int), i ≤ m ∧ s4 = .int .i64 a ∧ s5 = .int .i64 (i : Int) ∧ Bx (LI l i a)) (fun _ s5 => m - (intOf s5).toNat)
  case atStart => exact ⟨0, -1, by omega, rfl, rfl, ⟨.inl ⟨rfl, fun j h => absurd h (by omega)⟩⟩⟩
  case round =>
    obtain ⟨i, a, hi, rfl, rfl, HI⟩ := hrel
    by_cases him : i < m
    · obtain ⟨c, hc⟩ : ∃ c, l[i]? = some c := ⟨_, List.getElem?_eq_getElem (by rw [HM.out]; exact him)⟩
      have hix := fun W => cs_at l i c hc W
      have hcb := c.toNat_lt
      by_cases h58 : c = 58
      · have e1 : ((c.toNat : Int) == 58) = true := by rw [h58]; rfl
        have HI2 := Bx.mk (LI.hit (l := l) (i := i) (by rw [hc, h58]))
        clear hc h58 HI
        go_wp2_with fail
        go_round
        case rel => exact ⟨i + 1, _, by omega, rfl, by go_num, HI2⟩
        case measure => simp [intOf]; omega
      · have e1 : ((c.toNat : Int) == 58) = false := beq_eq_false_iff_ne.2 fun e => h58 (UInt8.toNat_inj.1 (by show c.toNat = 58; omega))
        have HI2 := Bx.mk (HI.out.next hc h58)
        clear hc h58 HI
        go_wp2_with fail
        go_round
        case rel => exact ⟨i + 1, _, by omega, rfl, by go_num, HI2⟩
        case measure => simp [intOf]; omega
    · obtain rfl : i = m := by omega
      rcases HI.out with ⟨ha, hno⟩ | ⟨q, ha, hq, hc, hno⟩
      · have HR := Bx.mk (PTv_no (l := l) (by
          unfold parseT
          rw [lastC_none.2 (fun h => by
            obtain ⟨j, hj, e⟩ := List.getElem_of_mem h
            exact hno j (by rw [← HM.out]; exact hj) (by rw [List.getElem?_eq_getElem hj, e]))]))
        subst ha
        clear hno HI
        have r0 := HLv.out.cell 0
        have r1 := HLv.out.cell 1
        have r2 := HLv.out.cell 2
        have f0 := HLv.out.frozen 0
        have f1 := HLv.out.frozen 1
        have f2 := HLv.out.frozen 2
        simp at r0 r1 r2
        have hfin := ((HLv.out.set 0 (.int .u8 0)).set 1 (.string ⟨#[]⟩)).set 2 (.int .i64 0)
        simp only [List.setIfInBounds_toArray, List.set_cons_zero, List.set_cons_succ] at hfin
        have HFIN := Bx.mk hfin
        have HBF := Bx.mk (((HBv.out.setCell (p := ⟨hb, 0, none⟩) HHB.out (.int .u8 0)).setCell (p := ⟨hb, 1, none⟩) HHB.out (.string ⟨#[]⟩)).setCell (p := ⟨hb, 2, none⟩) HHB.out (.int .i64 0))
        clear hfin
        go_wp2_with fail
        exact bodyPost_ret (results_rpt HFIN.out _ rfl rfl) rfl ⟨by rw [HR.out]; rfl, HBF.out⟩
      · have hlc := lastC_at hc (fun j hj => by
          rcases Nat.lt_or_ge j i with h | h
          · exact hno j hj h
          · rw [List.getElem?_eq_none (by rw [HM.out]; exact h)]
            simp)
        subst ha
        by_cases hq0 : q = 0
        · subst hq0
          have HR := Bx.mk (PTv_no (l := l) (by unfold parseT; rw [hlc]; rfl))
          clear hno HI hc hlc
          have r0 := HLv.out.cell 0
          have r1 := HLv.out.cell 1
          have r2 := HLv.out.cell 2
          have f0 := HLv.out.frozen 0
          have f1 := HLv.out.frozen 1
          have f2 := HLv.out.frozen 2
          simp at r0 r1 r2
          have hfin := ((HLv.out.set 0 (.int .u8 0)).set 1 (.string ⟨#[]⟩)).set 2 (.int .i64 0)
          simp only [List.setIfInBounds_toArray, List.set_cons_zero, List.set_cons_succ] at hfin
          have HFIN := Bx.mk hfin
          have HBF := Bx.mk (((HBv.out.setCell (p := ⟨hb, 0, none⟩) HHB.out (.int .u8 0)).setCell (p := ⟨hb, 1, none⟩) HHB.out (.string ⟨#[]⟩)).setCell (p := ⟨hb, 2, none⟩) HHB.out (.int .i64 0))
          clear hfin
          go_wp2_with fail
          exact bodyPost_ret (results_rpt HFIN.out _ rfl rfl) rfl ⟨by rw [HR.out]; rfl, HBF.out⟩
        · have hTl : (l.take q).length = q := by rw [List.length_take, HM.out]; omega
          have ht := fun W => slice_to W (l.take q) (l.drop q)
          rw [List.take_append_drop, hTl] at ht
          have hf := fun W => slice_from W (l.take q) 58 (l.drop (q + 1))
          have hl2 : l.take q ++ 58 :: l.drop (q + 1) = l := by
            have h1 : l.drop q = 58 :: l.drop (q + 1) := by
              rw [List.drop_eq_getElem_cons (by rw [HM.out]; omega), (List.getElem?_eq_some_iff.1 hc).2]
            rw [← h1, List.take_append_drop]
          rw [hl2, hTl] at hf
          have hpt : parseT l = (hostOf (l.take q)).bind fun h => withPort h (l.drop (q + 1)) := by unfold parseT; rw [hlc]
          have hRl : (l.drop (q + 1)).length ≤ 3000 := by rw [List.length_drop, HM.out]; omega
          generalize l.take q = T at *
          generalize l.drop (q + 1) = R at *
          have HDC := Bx.mk (show ∀ W, Calls Tryz.prog 33 #[.string (S R), .int .i64 65535] W (Gives (.int .i64 (dI R 65535)) W) from fun W => rdecimal_any R hRl 65535 (by omega) W)
          have hps := fun W => rparse_any T (by omega) W
          obtain ⟨o1, ho1⟩ : ∃ o, parse T = o := ⟨_, rfl⟩
          rw [ho1] at hps
          obtain ⟨k1, t1, e1, hf1, hk1⟩ : ∃ (k1 : Int) (t1 : ByteArray) (e1 : Int), HPv o1 = .tuple #[.agg #[.int .u8 k1, .string t1], .int .i64 e1] ∧ ((o1 = none ∧ k1 = 0 ∧ e1 = 40) ∨ ∃ h, o1 = some h ∧ k1 = (h.kind : Int) ∧ t1 = S h.text ∧ e1 = 0) := by
            cases o1 with
            | none => exact ⟨0, ⟨#[]⟩, 40, rfl, .inl ⟨rfl, rfl, rfl⟩⟩
            | some h => exact ⟨_, _, 0, rfl, .inr ⟨h, rfl, rfl, rfl, rfl⟩⟩
          rw [hf1] at hps
          have HPS := Bx.mk hps
          have hsT : (S T).size = q := by rw [S_size, hTl]
          obtain ⟨c, r, hcr⟩ : ∃ c r, T = c :: r := by
            cases T with
            | nil => simp at hTl; omega
            | cons c r => exact ⟨c, r, rfl⟩
          have h0 : ∀ W, (Instr.index 9 (.string (S T)) (.int .i64 0)).run Tryz.prog W = .ok (.int .u8 (c.toNat : Int)) W := fun W => cs_at T 0 c (by rw [hcr]; rfl) W
          have hcb := c.toNat_lt
          obtain ⟨pI, hpI⟩ : ∃ p, dI R 65535 = p := ⟨_, rfl⟩
          rw [hpI] at HDC
          have HPI := Bx.mk hpI
          have HPT := Bx.mk hpt
          have HK1 := Bx.mk hk1
          have HO1 := Bx.mk ho1
          have HCR := Bx.mk hcr
          have HTL := Bx.mk hTl
          have hq1 : 1 ≤ q := by omega
          clear hno HI hc hlc hl2 hpt hps ho1 hf1 hk1 hcr hpI hTl hRl
          go_wp2_with fail
          refine (HDC.out _).mono ?_
          rintro e w2 ⟨rfl, hb2⟩
          have HL2 := Bx.mk (HLv.out.below hb2 HLv.out.lt)
          have HB2 := Bx.mk (HBv.out.trans (hb2.mono HBv.out.size))
          clear hb2 HLv HBv
          go_wp2_with fail
          refine (HPS.out _).mono ?_
          rintro e w3 ⟨rfl, hb3⟩
          obtain ⟨v4, hv4⟩ : ∃ v, v = w3.alloc (.cells #[.int .u8 k1, .string t1] 23) := ⟨_, rfl⟩
          obtain ⟨q4, hq4⟩ : ∃ b, b = w3.heap.size := ⟨_, rfl⟩
          have HLv := Bx.mk (show Lies v4 hb 30 #[.int .u8 0, .string ⟨#[]⟩, .int .i64 0] by rw [hv4]; exact (HL2.out.below hb3 HL2.out.lt).alloc _)
          have HBv := Bx.mk (show Below w.heap.size w v4 by rw [hv4]; exact (HB2.out.trans (hb3.mono HB2.out.size)).alloc (HB2.out.trans (hb3.mono HB2.out.size)).size _)
          have HQv := Bx.mk (show Lies v4 q4 23 #[.int .u8 k1, .string t1] by rw [hv4, hq4]; exact Lies.new _ _ _)
          have HNB := Bx.mk (show hb ≠ q4 ∧ w.heap.size ≤ q4 by have h1 := HL2.out.lt; have h2 := hb3.size; have h3 := HB2.out.size; rw [hq4]; omega)
          clear hb3 HL2 HB2
          go_upto_region 12 with fail
          rw [← hv4, ← hq4]
          clear hv4 hq4
          by_cases h91 : c = 91
          · subst h91
            have e91 : (((91 : UInt8).toNat : Int) == 91) = true := rfl
            by_cases hlast : r.getLast? = some 93
            · obtain ⟨d, hd⟩ : ∃ d, r = d ++ [93] := by
                obtain ⟨ys, hys⟩ := List.getLast?_eq_some_iff.1 hlast
                exact ⟨ys, hys⟩
              have hql : d.length + 2 = q := by
                have := HTL.out
                rw [HCR.out, hd] at this
                simpa using this
              have hz : ∀ W, (Instr.index 9 (.string (S T)) (.int .i64 ((q : Int) - 1))).run Tryz.prog W = .ok (.int .u8 93) W := fun W => by
                have := cs_at T (q - 1) 93 (by rw [HCR.out, hd, show q - 1 = d.length + 1 by omega]; show (d ++ [93])[d.length]? = some 93; simp) W
                rw [show ((q - 1 : Nat) : Int) = (q : Int) - 1 by omega] at this
                exact this
              have hext : (S T).extract 1 (q - 1) = S d := by
                rw [HCR.out, hd, ← hql]
                apply ByteArray.ext
                apply Array.toList_inj.1
                simp [S]
              have hdl : d.length ≤ 3000 := by omega
              have hp2 := fun W => rparse_any d hdl W
              obtain ⟨o2, ho2⟩ : ∃ o, parse d = o := ⟨_, rfl⟩
              have hho : hostOf T = o2.bind fun h => if h.kind = 2 then some h else none := by
                rw [HCR.out, hd]
                unfold hostOf
                dsimp only
                rw [if_pos rfl, if_pos (by simp), List.dropLast_concat, ho2]
              rw [ho2] at hp2
              obtain ⟨k2, t2, e2, hf2, hk2⟩ : ∃ (k1 : Int) (t1 : ByteArray) (e1 : Int), HPv o2 = .tuple #[.agg #[.int .u8 k1, .string t1], .int .i64 e1] ∧ ((o2 = none ∧ k1 = 0 ∧ e1 = 40) ∨ ∃ h, o2 = some h ∧ k1 = (h.kind : Int) ∧ t1 = S h.text ∧ e1 = 0) := by
                cases o2 with
                | none => exact ⟨0, ⟨#[]⟩, 40, rfl, .inl ⟨rfl, rfl, rfl⟩⟩
                | some h => exact ⟨_, _, 0, rfl, .inr ⟨h, rfl, rfl, rfl, rfl⟩⟩
              rw [hf2] at hp2
              have HP2 := Bx.mk hp2
              have HK2 := Bx.mk hk2
              have HHO := Bx.mk hho
              have hq2 : 2 ≤ q := by omega
              generalize S d = sd at *
              clear hd hlast hp2 ho2 hf2 hk2 hho hql hdl
              go_wp2_with fail
              refine (HP2.out _).mono ?_
              rintro e w6 ⟨rfl, hb6⟩
              have hl6 := HLv.out.below hb6 HLv.out.lt
              have hq6 := HQv.out.below hb6 HQv.out.lt
              have hb6' := HBv.out.trans (hb6.mono HBv.out.size)
              have s0 := hq6.cell 0
              have s1 := hq6.cell 1
              have g0 := hq6.frozen 0
              have g1 := hq6.frozen 1
              simp at s0 s1
              have hq7 := (hq6.set 0 (.int .u8 k2)).set 1 (.string t2)
              simp only [List.setIfInBounds_toArray, List.set_cons_zero, List.set_cons_succ] at hq7
              have hl7 := (hl6.far (p := ⟨q4, 0, none⟩) HNB.out.1 (.int .u8 k2)).far (p := ⟨q4, 1, none⟩) HNB.out.1 (.string t2)
              have hb7 := (hb6'.setCell (p := ⟨q4, 0, none⟩) HNB.out.2 (.int .u8 k2)).setCell (p := ⟨q4, 1, none⟩) HNB.out.2 (.string t2)
              obtain ⟨v7, hv7⟩ : ∃ v, v = (w6.setCell ⟨q4, 0, none⟩ (.int .u8 k2)).setCell ⟨q4, 1, none⟩ (.string t2) := ⟨_, rfl⟩
              rw [← hv7] at hq7 hl7 hb7
              clear HQv HLv HBv
              have HQv := Bx.mk hq7
              have HLv := Bx.mk hl7
              have HBv := Bx.mk hb7
              clear hb6 hl6 hq6 hq7 hl7 hb7 hb6'
              go_upto_region 16 with fail
              rw [← hv7]
              clear hv7 s0 s1 g0 g1
              have s0 := HQv.out.cell 0
              have s1 := HQv.out.cell 1
              simp at s0 s1
              rcases HK2.out with ⟨hn, hk, he⟩ | ⟨h, hs, hk, ht1, he⟩
              · have HR := Bx.mk (PTv_no (l := l) (by rw [HPT.out, HHO.out, hn]; rfl))
                subst hk he
                clear hn
                have r0 := HLv.out.cell 0
                have r1 := HLv.out.cell 1
                have r2 := HLv.out.cell 2
                have f0 := HLv.out.frozen 0
                have f1 := HLv.out.frozen 1
                have f2 := HLv.out.frozen 2
                simp at r0 r1 r2
                have hfin := ((HLv.out.set 0 (.int .u8 0)).set 1 (.string ⟨#[]⟩)).set 2 (.int .i64 0)
                simp only [List.setIfInBounds_toArray, List.set_cons_zero, List.set_cons_succ] at hfin
                have HFIN := Bx.mk hfin
                have HBF := Bx.mk (((HBv.out.setCell (p := ⟨hb, 0, none⟩) HHB.out (.int .u8 0)).setCell (p := ⟨hb, 1, none⟩) HHB.out (.string ⟨#[]⟩)).setCell (p := ⟨hb, 2, none⟩) HHB.out (.int .i64 0))
                clear hfin
                go_wp2_with fail
                exact bodyPost_ret (results_rpt HFIN.out _ rfl rfl) rfl ⟨by rw [HR.out]; rfl, HBF.out⟩
              · by_cases hk2 : h.kind = 2
                · have ek : (k2 != 2) = false := by rw [hk, hk2]; rfl
                  have hpt : parseT l = withPort h R := by rw [HPT.out, HHO.out, hs]; show ((if h.kind = 2 then some h else none : Option H)).bind _ = _; rw [if_pos hk2]; rfl
                  by_cases hp : pI < 1
                  · have HR := Bx.mk (PTv_no (l := l) (by
                      rw [hpt]
                      unfold withPort
                      have hpi := HPI.out
                      rcases hd : dec R 65535 with _ | n
                      · rfl
                      · rw [dI_some hd] at hpi
                        dsimp only
                        rw [if_neg (by omega)]))
                    subst he
                    clear hs hk ht1 hk2 hpt
                    have r0 := HLv.out.cell 0
                    have r1 := HLv.out.cell 1
                    have r2 := HLv.out.cell 2
                    have f0 := HLv.out.frozen 0
                    have f1 := HLv.out.frozen 1
                    have f2 := HLv.out.frozen 2
                    simp at r0 r1 r2
                    have hfin := ((HLv.out.set 0 (.int .u8 0)).set 1 (.string ⟨#[]⟩)).set 2 (.int .i64 0)
                    simp only [List.setIfInBounds_toArray, List.set_cons_zero, List.set_cons_succ] at hfin
                    have HFIN := Bx.mk hfin
                    have HBF := Bx.mk (((HBv.out.setCell (p := ⟨hb, 0, none⟩) HHB.out (.int .u8 0)).setCell (p := ⟨hb, 1, none⟩) HHB.out (.string ⟨#[]⟩)).setCell (p := ⟨hb, 2, none⟩) HHB.out (.int .i64 0))
                    clear hfin
                    go_wp2_with fail
                    exact bodyPost_ret (results_rpt HFIN.out _ rfl rfl) rfl ⟨by rw [HR.out]; rfl, HBF.out⟩
                  · have HR := Bx.mk (show PTv (parseT l) = .tuple #[tv k2 t2 pI, .int .i64 0] by
                      rw [hpt]
                      unfold withPort
                      have hpi := HPI.out
                      rcases hd : dec R 65535 with _ | n
                      · rw [dI_none hd] at hpi
                        omega
                      · rw [dI_some hd] at hpi
                        dsimp only
                        rw [if_pos (by omega)]
                        rw [hk, ht1, ← hpi]
                        rfl)
                    subst he
                    clear hs hk ht1 hk2 hpt
                    have r0 := HLv.out.cell 0
                    have r1 := HLv.out.cell 1
                    have r2 := HLv.out.cell 2
                    have f0 := HLv.out.frozen 0
                    have f1 := HLv.out.frozen 1
                    have f2 := HLv.out.frozen 2
                    simp at r0 r1 r2
                    have hfin := ((HLv.out.set 0 (.int .u8 k2)).set 1 (.string t2)).set 2 (.int .i64 pI)
                    simp only [List.setIfInBounds_toArray, List.set_cons_zero, List.set_cons_succ] at hfin
                    have HFIN := Bx.mk hfin
                    have HBF := Bx.mk (((HBv.out.setCell (p := ⟨hb, 0, none⟩) HHB.out (.int .u8 k2)).setCell (p := ⟨hb, 1, none⟩) HHB.out (.string t2)).setCell (p := ⟨hb, 2, none⟩) HHB.out (.int .i64 pI))
                    clear hfin
                    go_wp2_with fail
                    exact bodyPost_ret (results_rpt HFIN.out _ rfl rfl) rfl ⟨by rw [HR.out]; rfl, HBF.out⟩
                · have HR := Bx.mk (PTv_no (l := l) (by rw [HPT.out, HHO.out, hs]; show ((if h.kind = 2 then some h else none : Option H)).bind _ = none; rw [if_neg hk2]; rfl))
                  have ek : (k2 != 2) = true := bne_iff_ne.2 (by omega)
                  subst he
                  clear hs hk ht1 hk2
                  have r0 := HLv.out.cell 0
                  have r1 := HLv.out.cell 1
                  have r2 := HLv.out.cell 2
                  have f0 := HLv.out.frozen 0
                  have f1 := HLv.out.frozen 1
                  have f2 := HLv.out.frozen 2
                  simp at r0 r1 r2
                  have hfin := ((HLv.out.set 0 (.int .u8 0)).set 1 (.string ⟨#[]⟩)).set 2 (.int .i64 0)
                  simp only [List.setIfInBounds_toArray, List.set_cons_zero, List.set_cons_succ] at hfin
                  have HFIN := Bx.mk hfin
                  have HBF := Bx.mk (((HBv.out.setCell (p := ⟨hb, 0, none⟩) HHB.out (.int .u8 0)).setCell (p := ⟨hb, 1, none⟩) HHB.out (.string ⟨#[]⟩)).setCell (p := ⟨hb, 2, none⟩) HHB.out (.int .i64 0))
                  clear hfin
                  go_wp2_with fail
                  exact bodyPost_ret (results_rpt HFIN.out _ rfl rfl) rfl ⟨by rw [HR.out]; rfl, HBF.out⟩
            · obtain ⟨z, hz⟩ : ∃ z, T[q - 1]? = some z := ⟨_, List.getElem?_eq_getElem (by rw [HTL.out]; omega)⟩
              have hz1 : ∀ W, (Instr.index 9 (.string (S T)) (.int .i64 ((q : Int) - 1))).run Tryz.prog W = .ok (.int .u8 (z.toNat : Int)) W := fun W => by
                have := cs_at T (q - 1) z hz W
                rw [show ((q - 1 : Nat) : Int) = (q : Int) - 1 by omega] at this
                exact this
              have hz93 : z ≠ 93 := fun e => by
                have h1 : T.getLast? = some z := by rw [List.getLast?_eq_getElem?, HTL.out]; exact hz
                rw [HCR.out, List.getLast?_cons, e] at h1
                rcases hr : r.getLast? with _ | y
                · rw [hr] at h1
                  simp at h1
                · rw [hr] at h1 hlast
                  simp at h1
                  exact hlast (by rw [h1])
              have hzb := z.toNat_lt
              have ez : ((z.toNat : Int) != 93) = true := bne_iff_ne.2 fun e => hz93 (UInt8.toNat_inj.1 (by show z.toNat = 93; omega))
              have HR := Bx.mk (PTv_no (l := l) (by
                rw [HPT.out, HCR.out]
                have hn : hostOf (91 :: r) = none := by
                  unfold hostOf
                  dsimp only
                  rw [if_pos rfl, if_neg hlast]
                rw [hn]
                rfl))
              clear hz hz93 hlast
              have r0 := HLv.out.cell 0
              have r1 := HLv.out.cell 1
              have r2 := HLv.out.cell 2
              have f0 := HLv.out.frozen 0
              have f1 := HLv.out.frozen 1
              have f2 := HLv.out.frozen 2
              simp at r0 r1 r2
              have hfin := ((HLv.out.set 0 (.int .u8 0)).set 1 (.string ⟨#[]⟩)).set 2 (.int .i64 0)
              simp only [List.setIfInBounds_toArray, List.set_cons_zero, List.set_cons_succ] at hfin
              have HFIN := Bx.mk hfin
              have HBF := Bx.mk (((HBv.out.setCell (p := ⟨hb, 0, none⟩) HHB.out (.int .u8 0)).setCell (p := ⟨hb, 1, none⟩) HHB.out (.string ⟨#[]⟩)).setCell (p := ⟨hb, 2, none⟩) HHB.out (.int .i64 0))
              clear hfin
              go_wp2_with fail
              exact bodyPost_ret (results_rpt HFIN.out _ rfl rfl) rfl ⟨by rw [HR.out]; rfl, HBF.out⟩
          · have e91 : ((c.toNat : Int) == 91) = false := beq_eq_false_iff_ne.2 fun e => h91 (UInt8.toNat_inj.1 (by show c.toNat = 91; omega))
            have hho : hostOf T = o1.bind fun h => if h.kind = 2 then none else some h := by
              rw [HCR.out]
              show (if c = 91 then _ else _) = _
              rw [if_neg h91, ← HCR.out, HO1.out]
            have s0 := HQv.out.cell 0
            have s1 := HQv.out.cell 1
            simp at s0 s1
            rcases HK1.out with ⟨hn, hk, he⟩ | ⟨h, hs, hk, ht1, he⟩
            · have HR := Bx.mk (PTv_no (l := l) (by rw [HPT.out, hho, hn]; rfl))
              subst hk he
              clear hho hn h91
              have r0 := HLv.out.cell 0
              have r1 := HLv.out.cell 1
              have r2 := HLv.out.cell 2
              have f0 := HLv.out.frozen 0
              have f1 := HLv.out.frozen 1
              have f2 := HLv.out.frozen 2
              simp at r0 r1 r2
              have hfin := ((HLv.out.set 0 (.int .u8 0)).set 1 (.string ⟨#[]⟩)).set 2 (.int .i64 0)
              simp only [List.setIfInBounds_toArray, List.set_cons_zero, List.set_cons_succ] at hfin
              have HFIN := Bx.mk hfin
              have HBF := Bx.mk (((HBv.out.setCell (p := ⟨hb, 0, none⟩) HHB.out (.int .u8 0)).setCell (p := ⟨hb, 1, none⟩) HHB.out (.string ⟨#[]⟩)).setCell (p := ⟨hb, 2, none⟩) HHB.out (.int .i64 0))
              clear hfin
              go_wp2_with fail
              exact bodyPost_ret (results_rpt HFIN.out _ rfl rfl) rfl ⟨by rw [HR.out]; rfl, HBF.out⟩
            · by_cases hk2 : h.kind = 2
              · have HR := Bx.mk (PTv_no (l := l) (by rw [HPT.out, hho, hs]; show ((if h.kind = 2 then none else some h : Option H)).bind _ = none; rw [if_pos hk2]; rfl))
                have hk2' : k1 = 2 := by omega
                subst hk2' he
                clear hho hs hk ht1 hk2 h91
                have r0 := HLv.out.cell 0
                have r1 := HLv.out.cell 1
                have r2 := HLv.out.cell 2
                have f0 := HLv.out.frozen 0
                have f1 := HLv.out.frozen 1
                have f2 := HLv.out.frozen 2
                simp at r0 r1 r2
                have hfin := ((HLv.out.set 0 (.int .u8 0)).set 1 (.string ⟨#[]⟩)).set 2 (.int .i64 0)
                simp only [List.setIfInBounds_toArray, List.set_cons_zero, List.set_cons_succ] at hfin
                have HFIN := Bx.mk hfin
                have HBF := Bx.mk (((HBv.out.setCell (p := ⟨hb, 0, none⟩) HHB.out (.int .u8 0)).setCell (p := ⟨hb, 1, none⟩) HHB.out (.string ⟨#[]⟩)).setCell (p := ⟨hb, 2, none⟩) HHB.out (.int .i64 0))
                clear hfin
                go_wp2_with fail
                exact bodyPost_ret (results_rpt HFIN.out _ rfl rfl) rfl ⟨by rw [HR.out]; rfl, HBF.out⟩
              · have ek : (k1 == 2) = false := beq_eq_false_iff_ne.2 (by omega)
                have hpt : parseT l = withPort h R := by rw [HPT.out, hho, hs]; show ((if h.kind = 2 then none else some h : Option H)).bind _ = _; rw [if_neg hk2]; rfl
                by_cases hp : pI < 1
                · have HR := Bx.mk (PTv_no (l := l) (by
                    rw [hpt]
                    unfold withPort
                    have hpi := HPI.out
                    rcases hd : dec R 65535 with _ | n
                    · rfl
                    · rw [dI_some hd] at hpi
                      dsimp only
                      rw [if_neg (by omega)]))
                  subst he
                  clear hho hs hk ht1 hk2 h91 hpt
                  have r0 := HLv.out.cell 0
                  have r1 := HLv.out.cell 1
                  have r2 := HLv.out.cell 2
                  have f0 := HLv.out.frozen 0
                  have f1 := HLv.out.frozen 1
                  have f2 := HLv.out.frozen 2
                  simp at r0 r1 r2
                  have hfin := ((HLv.out.set 0 (.int .u8 0)).set 1 (.string ⟨#[]⟩)).set 2 (.int .i64 0)
                  simp only [List.setIfInBounds_toArray, List.set_cons_zero, List.set_cons_succ] at hfin
                  have HFIN := Bx.mk hfin
                  have HBF := Bx.mk (((HBv.out.setCell (p := ⟨hb, 0, none⟩) HHB.out (.int .u8 0)).setCell (p := ⟨hb, 1, none⟩) HHB.out (.string ⟨#[]⟩)).setCell (p := ⟨hb, 2, none⟩) HHB.out (.int .i64 0))
                  clear hfin
                  go_wp2_with fail
                  exact bodyPost_ret (results_rpt HFIN.out _ rfl rfl) rfl ⟨by rw [HR.out]; rfl, HBF.out⟩
                · have HR := Bx.mk (show PTv (parseT l) = .tuple #[tv k1 t1 pI, .int .i64 0] by
                    rw [hpt]
                    unfold withPort
                    have hpi := HPI.out
                    rcases hd : dec R 65535 with _ | n
                    · rw [dI_none hd] at hpi
                      omega
                    · rw [dI_some hd] at hpi
                      dsimp only
                      rw [if_pos (by omega)]
                      rw [hk, ht1, ← hpi]
                      rfl)
                  subst he
                  clear hho hs hk ht1 hk2 h91 hpt
                  have r0 := HLv.out.cell 0
                  have r1 := HLv.out.cell 1
                  have r2 := HLv.out.cell 2
                  have f0 := HLv.out.frozen 0
                  have f1 := HLv.out.frozen 1
                  have f2 := HLv.out.frozen 2
                  simp at r0 r1 r2
                  have hfin := ((HLv.out.set 0 (.int .u8 k1)).set 1 (.string t1)).set 2 (.int .i64 pI)
                  simp only [List.setIfInBounds_toArray, List.set_cons_zero, List.set_cons_succ] at hfin
                  have HFIN := Bx.mk hfin
                  have HBF := Bx.mk (((HBv.out.setCell (p := ⟨hb, 0, none⟩) HHB.out (.int .u8 k1)).setCell (p := ⟨hb, 1, none⟩) HHB.out (.string t1)).setCell (p := ⟨hb, 2, none⟩) HHB.out (.int .i64 pI))
                  clear hfin
                  go_wp2_with fail
                  exact bodyPost_ret (results_rpt HFIN.out _ rfl rfl) rfl ⟨by rw [HR.out]; rfl, HBF.out⟩

set_option maxRecDepth 100000 in
set_option maxHeartbeats 1600000 in
theorem parses_at {w : World} (he : Env w) (l : Str) : Calls Tryz.prog 3 #[.string (S l)] w (Gives (.bool true) w) := by
  have hsz : (S l).size = l.length := S_size l
  obtain ⟨m, hm⟩ : ∃ m, l.length = m := ⟨_, rfl⟩
  rw [hm] at hsz
  by_cases h2 : 2000 < m
  · clear hm
    go_enter Tryz.func3, Tryz.ntmps3
    go_wp2_with fail
    go_ret
    exact ⟨rfl, Below.refl _ _⟩
  · have h2m : m ≤ 2000 := by omega
    have hp1 := fun W (hW : Below w.heap.size w W) => parse_any (S l) (by rw [hsz]; omega) W (he.below hW)
    have hp2 := fun W => rparse_any l (by omega) W
    have ht1 := fun W (hW : Below w.heap.size w W) => parseTarget_any (S l) (by rw [hsz]; omega) W (he.below hW)
    have ht2 := fun W => rparseTarget_any l (by omega) W
    rw [S_list] at hp1 ht1
    obtain ⟨k, t, e0, hf⟩ := HPv_form (parse l)
    obtain ⟨k2, t2, p2, e2, hf2⟩ := PTv_form (parseT l)
    rw [hf] at hp1 hp2
    rw [hf2] at ht1 ht2
    have HP1 := Bx.mk hp1
    have HP2 := Bx.mk hp2
    have HT1 := Bx.mk ht1
    have HT2 := Bx.mk ht2
    have s1 : (t.toList == t.toList) = true := beq_self_eq_true _
    have s2 : (t2.toList == t2.toList) = true := beq_self_eq_true _
    have s3 : (k == k) = true := beq_self_eq_true _
    have s4 : (k2 == k2) = true := beq_self_eq_true _
    have s5 : (p2 == p2) = true := beq_self_eq_true _
    have s6 : (e0 == e0) = true := beq_self_eq_true _
    have s7 : (e2 == e2) = true := beq_self_eq_true _
    have HB1 := Bx.mk (Below.refl w.heap.size w)
    clear hm he hp1 hp2 ht1 ht2 hf hf2 h2
    go_enter Tryz.func3, Tryz.ntmps3
    go_wp2_with fail
    refine (HP1.out _ HB1.out).mono ?_
    rintro e w2 ⟨rfl, hb2⟩
    obtain ⟨v2, hv2⟩ : ∃ v, v = w2.alloc (.cells #[.int .u8 k, .string t] 23) := ⟨_, rfl⟩
    obtain ⟨q2, hq2⟩ : ∃ b, b = w2.heap.size := ⟨_, rfl⟩
    have L2 : Bx (Lies v2 q2 23 #[.int .u8 k, .string t]) := ⟨by rw [hv2, hq2]; exact Lies.new _ _ _⟩
    have BB2 := Bx.mk (show Below w.heap.size w v2 by rw [hv2]; exact (HB1.out.trans (hb2.mono HB1.out.size)).alloc (HB1.out.trans (hb2.mono HB1.out.size)).size _)
    clear hb2
    go_upto_region 4 with fail
    rw [← hv2, ← hq2]
    clear hv2 hq2
    go_wp2_with fail
    refine (HP2.out _).mono ?_
    rintro e w4 ⟨rfl, hb4⟩
    obtain ⟨v4, hv4⟩ : ∃ v, v = w4.alloc (.cells #[.int .u8 k, .string t] 23) := ⟨_, rfl⟩
    obtain ⟨q4, hq4⟩ : ∃ b, b = w4.heap.size := ⟨_, rfl⟩
    have M4 : Bx (Lies v4 q4 23 #[.int .u8 k, .string t]) := ⟨by rw [hv4, hq4]; exact Lies.new _ _ _⟩
    have L4 : Bx (Lies v4 q2 23 #[.int .u8 k, .string t]) := ⟨by rw [hv4]; exact (L2.out.below hb4 L2.out.lt).alloc _⟩
    have BB4 := Bx.mk (show Below w.heap.size w v4 by rw [hv4]; exact (BB2.out.trans (hb4.mono BB2.out.size)).alloc (BB2.out.trans (hb4.mono BB2.out.size)).size _)
    clear hb4 L2
    go_upto_region 5 with fail
    rw [← hv4, ← hq4]
    clear hv4 hq4
    go_wp2_with fail
    refine (HT1.out _ BB4.out).mono ?_
    rintro e w5 ⟨rfl, hb5⟩
    obtain ⟨v5, hv5⟩ : ∃ v, v = w5.alloc (.cells #[.int .u8 k2, .string t2, .int .i64 p2] 30) := ⟨_, rfl⟩
    obtain ⟨q5, hq5⟩ : ∃ b, b = w5.heap.size := ⟨_, rfl⟩
    have N5 : Bx (Lies v5 q5 30 #[.int .u8 k2, .string t2, .int .i64 p2]) := ⟨by rw [hv5, hq5]; exact Lies.new _ _ _⟩
    have L5 : Bx (Lies v5 q2 23 #[.int .u8 k, .string t]) := ⟨by rw [hv5]; exact (L4.out.below hb5 L4.out.lt).alloc _⟩
    have M5 : Bx (Lies v5 q4 23 #[.int .u8 k, .string t]) := ⟨by rw [hv5]; exact (M4.out.below hb5 M4.out.lt).alloc _⟩
    have BB5 := Bx.mk (show Below w.heap.size w v5 by rw [hv5]; exact (BB4.out.trans (hb5.mono BB4.out.size)).alloc (BB4.out.trans (hb5.mono BB4.out.size)).size _)
    clear hb5 L4 M4
    go_upto_region 6 with fail
    rw [← hv5, ← hq5]
    clear hv5 hq5
    go_wp2_with fail
    refine (HT2.out _).mono ?_
    rintro e w7 ⟨rfl, hb7⟩
    obtain ⟨v7, hv7⟩ : ∃ v, v = w7.alloc (.cells #[.int .u8 k2, .string t2, .int .i64 p2] 30) := ⟨_, rfl⟩
    obtain ⟨q7, hq7⟩ : ∃ b, b = w7.heap.size := ⟨_, rfl⟩
    have O7 : Lies v7 q7 30 #[.int .u8 k2, .string t2, .int .i64 p2] := by rw [hv7, hq7]; exact Lies.new _ _ _
    have L7 : Lies v7 q2 23 #[.int .u8 k, .string t] := by rw [hv7]; exact (L5.out.below hb7 L5.out.lt).alloc _
    have M7 : Lies v7 q4 23 #[.int .u8 k, .string t] := by rw [hv7]; exact (M5.out.below hb7 M5.out.lt).alloc _
    have N7 : Lies v7 q5 30 #[.int .u8 k2, .string t2, .int .i64 p2] := by rw [hv7]; exact (N5.out.below hb7 N5.out.lt).alloc _
    have BB7 := Bx.mk (show Below w.heap.size w v7 by rw [hv7]; exact (BB5.out.trans (hb7.mono BB5.out.size)).alloc (BB5.out.trans (hb7.mono BB5.out.size)).size _)
    have a0 := L7.cell 0
    have a1 := L7.cell 1
    have b0 := M7.cell 0
    have b1 := M7.cell 1
    have c0 := N7.cell 0
    have c1 := N7.cell 1
    have c2 := N7.cell 2
    have d0 := O7.cell 0
    have d1 := O7.cell 1
    have d2 := O7.cell 2
    simp at a0 a1 b0 b1 c0 c1 c2 d0 d1 d2
    clear hb7 L5 M5 N5 L7 M7 N7 O7
    go_upto_region 7 with fail
    rw [← hv7, ← hq7]
    clear hv7 hq7
    go_wp2_with fail
    go_ret
    exact ⟨rfl, BB7.out⟩
theorem parses_any {w : World} (he : Env w) (s : ByteArray) : Calls Tryz.prog 3 #[.string s] w (Gives (.bool true) w) := by
  have h := parses_at he s.data.toList
  rwa [S_data] at h
end Go.Proofs.YtpllhnknejceiaaGreatDoor.hw
