/-
  Given for 'Rows.RackTwiceSaid': the law's walk. No condition.
-/
import Derived.Test.YtcecdcdnjbndiaaAwake3
namespace Go.Proofs.Ytcecdcdnjbndiaa.rack
open Go.RowKit mem find
set_option linter.unusedVariables false

theorem size_of (size : Int) : ∃ N : Nat, wrap64 (1 + wrap64 ((IntKind.u64.wrap size).tmod 64)) = (N : Int) ∧ 1 ≤ N ∧ N ≤ 64 := by
  have h0 := wrap_u64_nonneg size
  rw [Int.tmod_eq_emod_of_nonneg h0]
  generalize IntKind.u64.wrap size = u at h0
  have h1 : wrap64 (u % 64) = u % 64 := IntWalk.wrap64_in _ (by omega)
  rw [h1, IntWalk.wrap64_in _ (by omega)]
  exact ⟨(1 + u % 64).toNat, by omega, by omega, by omega⟩

section
variable {w W : World} {B : Nat} {A : Option Addr} {c n : Nat} {xs : List Int}
theorem ints_cell (h : W.ownsRow B 3 1 (.slice A n c) n (I8 xs)) (hp : 0 < xs.length) : ∃ g, A = some ⟨g, 0, none⟩ ∧ g < W.heap.size ∧ ∀ (j : Nat) (z : Int), xs[j]? = some z → W.cell? ⟨g, j, none⟩ = some (.int .i64 z) := by
  rcases h.2 with ⟨he, h0⟩ | ⟨g, cap, cur, he, hb, hg, hn, hm, hs, ht⟩
  · have := h.1; simp [I8] at this; omega
  · simp only [Value.slice.injEq] at he
    obtain ⟨rfl, _, rfl⟩ := he
    refine ⟨g, rfl, (Array.getElem?_eq_some_iff.1 hg).1, fun j z hz => ?_⟩
    have k1 := h.cells (g := g) rfl j (.int .i64 z) (by simp [I8, hz])
    rw [Addr.add_lit, Nat.zero_add] at k1
    exact k1
theorem ints_ge (h : W.ownsRow B 3 1 (.slice A n c) n (I8 xs)) {g : Nat} (hg : (Value.slice A 0 0).ownBlock = some g) : B ≤ g := by
  have e : (Value.slice A n c).ownBlock = some g := by rw [← hg]; cases A <;> rfl
  exact (h.lt g e).1

/-- what a call leaves whose answer is not looked at -/
structure AnySt (w : World) (r N : Nat) (nx st : Int) (R : List (Int × Int)) (d : Nat) (e : Ending) (W' : World) : Prop where
  ex : ∃ (g : Int) (S' : Nat → Prop) (R' : List (Int × Int)), e = .returned (.int .i64 g) ∧ St w S' r N nx st R' W' ∧ ∀ a, cnt R' a ≤ cnt R a + d

variable {S : Nat → Prop} {r N : Nat} {nx st : Int} {R : List (Int × Int)}
theorem hold_st (h : St w S r N nx st R W) (id v : Int) : Calls Try.prog 11 #[.pointer (some ⟨r, 0, none⟩), .int .i64 id, .int .i64 v] W (AnySt w r N nx st R 1) := by
  by_cases hin : Has R id
  · refine (hold_used h.rk hin v).mono ?_
    rintro e W' ⟨rfl, hb⟩
    exact ⟨2, S, R, rfl, h.later hb, fun a => by omega⟩
  · by_cases hid : id < 1 ∨ 1099511627775 < id
    · refine (hold_wrong h.rk hin hid v).mono ?_
      rintro e W' ⟨rfl, hb⟩
      exact ⟨2, S, R, rfl, h.later hb, fun a => by omega⟩
    · by_cases hf : R.length = N
      · refine (hold_full h.rk hin (by omega) (by omega) hf v).mono ?_
        rintro e W' ⟨rfl, hb⟩
        exact ⟨4, S, R, rfl, h.later hb, fun a => by omega⟩
      · refine (hold_ok h.rk hin (by omega) (by omega) (by have := h.rk.len; omega) v).mono ?_
        rintro e W' ⟨rfl, hd⟩
        exact ⟨0, _, _, rfl, h.did hd, fun a => by rw [cnt_insR]; split <;> omega⟩
theorem drop_st (h : St w S r N nx st R W) (id : Int) : Calls Try.prog 15 #[.pointer (some ⟨r, 0, none⟩), .int .i64 id] W (AnySt w r N nx st R 0) := by
  by_cases hin : Has R id
  · obtain ⟨k, u, hk⟩ := has_get hin
    refine (drop_in h.rk hk).mono ?_
    rintro e W' ⟨rfl, hd⟩
    exact ⟨0, _, _, rfl, h.did hd, fun a => cnt_delR _ _ _⟩
  · refine (drop_out h.rk hin).mono ?_
    rintro e W' ⟨rfl, hb⟩
    exact ⟨30, S, R, rfl, h.later hb, fun a => Nat.le_refl _⟩
end

/-- what holds between two acts -/
structure TwInv (w : World) (r N : Nat) (first st : Int) (k : Nat) (last : Int) (W : World) : Prop where
  ex : ∃ (S : Nat → Prop) (R : List (Int × Int)) (m : Nat), St w S r N (first + (m : Int) * st) st R W ∧ m + cnt R (first + (m : Int) * st) ≤ k ∧ 0 ≤ last ∧ last < first + (m : Int) * st

set_option maxRecDepth 100000 in
set_option maxHeartbeats 1000000 in
theorem twice_refused (size first step : Int) (A : Option Addr) (c : Nat) (acts : List ActD) (w : World) (h : (first < 1 ∨ 1000 < first) ∨ (step < 1 ∨ 1000 < step)) :
    Calls Try.prog 6 #[.int .i64 size, .int .i64 first, .int .i64 step, .slice A acts.length c] w fun e w' => e = .returned (.bool true) ∧ Below w.heap.size w w' := by
  have HA := Lib.hid (awake_any w)
  obtain ⟨N, hN, h1, h64⟩ := size_of size
  have HN := Lib.hid hN
  clear hN
  go_enter Try.func6, Try.ntmps6
  go_wp2_with fail
  refine HA.out.mono ?_
  rintro e w1 ⟨rfl, hb⟩
  have HB := Lib.hid hb
  clear hb HA
  go_wp2_with fail
  rw [HN.out]
  refine (new_no (N : Int) first step w1 (.inr h)).mono ?_
  rintro e w2 ⟨rfl, rfl⟩
  go_wp2_with fail
  go_ret
  exact ⟨rfl, HB.out⟩

set_option maxRecDepth 100000 in
set_option maxHeartbeats 1000000 in
theorem twice_far (size first step : Int) (A : Option Addr) (c : Nat) (acts : List ActD) (w : World) (hm : acts.length ≤ maxLen) (hat : ActsAt w A acts) (hf1 : 1 ≤ first) (hf2 : first ≤ 1000) (hs1 : 1 ≤ step) (hs2 : step ≤ 1000) (hnear : nearB acts = false) :
    Calls Try.prog 6 #[.int .i64 size, .int .i64 first, .int .i64 step, .slice A acts.length c] w fun e w' => e = .returned (.bool true) ∧ Below w.heap.size w w' := by
  have HA := Lib.hid (awake_any w)
  obtain ⟨N, hN, h1, h64⟩ := size_of size
  have HN := Lib.hid hN
  have HAT := Lib.hid hat
  have HM := Lib.hid hm
  have HNR := Lib.hid hnear
  clear hN hat hm hnear
  go_enter Try.func6, Try.ntmps6
  go_wp2_with fail
  refine HA.out.mono ?_
  rintro e w1 ⟨rfl, hb⟩
  have HB := Lib.hid hb
  clear hb HA
  go_wp2_with fail
  rw [HN.out]
  refine (new_ok N first step w1 (by omega) (by omega) hf1 hf2 hs1 hs2).mono ?_
  rintro e w2 ⟨rfl, hn⟩
  have hb2 := HB.out.trans (hn.below.mono HB.out.size)
  have HNE := Lib.hid (near_any A c acts w2 HM.out (HAT.out.below hb2))
  have HB2 := Lib.hid hb2
  clear hn hb2 HB
  generalize w1.heap.size = r
  go_wp2_with (go_at_call 24; refine HNE.out.mono ?_; rintro e w' ⟨rfl, rfl⟩; rw [HNR.out])
  go_ret
  exact ⟨rfl, HB2.out⟩

set_option maxRecDepth 100000 in
set_option maxHeartbeats 8000000 in
theorem twice_in (size first step : Int) (A : Option Addr) (c : Nat) (acts : List ActD) (w : World) (hm : acts.length ≤ maxLen) (hat : ActsAt w A acts) (hok : ActsOk acts) (hf1 : 1 ≤ first) (hf2 : first ≤ 1000) (hs1 : 1 ≤ step) (hs2 : step ≤ 1000) (hnear : nearB acts = true) :
    Calls Try.prog 6 #[.int .i64 size, .int .i64 first, .int .i64 step, .slice A acts.length c] w fun e w' => e = .returned (.bool true) ∧ Below w.heap.size w w' := by
  have HA := Lib.hid (awake_any w)
  obtain ⟨N, hN, h1, h64⟩ := size_of size
  have hlen150 := nearB_len hnear
  have HN := Lib.hid hN
  have HAT := Lib.hid hat
  have HM := Lib.hid hm
  have HOK := Lib.hid hok
  have HNR := Lib.hid hnear
  clear hN hat hm hok hnear
  go_enter Try.func6, Try.ntmps6
  go_wp2_with fail
  refine HA.out.mono ?_
  rintro e w1 ⟨rfl, hb⟩
  have HB := Lib.hid hb
  clear hb HA
  go_wp2_with fail
  rw [HN.out]
  refine (new_ok N first step w1 (by omega) (by omega) hf1 hf2 hs1 hs2).mono ?_
  rintro e w2 ⟨rfl, hn⟩
  have hst := St.made hn HB.out
  have HNE := Lib.hid (near_any A c acts w2 HM.out (HAT.out.below hst.below))
  have h0 : TwInv w w1.heap.size N first step 0 0 w2 := ⟨_, [], 0, by simpa using hst, by simp [cnt], by omega, by simp; omega⟩
  have H0 := Lib.hid h0
  clear hn hst h0 HB HN
  generalize w1.heap.size = r at *
  generalize hlv : acts.length = len at *
  have HLV := Lib.hid hlv
  clear hlv
  go_wp2_with (go_at_call 24; refine HNE.out.mono ?_; rintro e w' ⟨rfl, rfl⟩; rw [HNR.out])
  go_loopw [11, 12] (fun s11 s12 wr => ∃ (k : Nat) (last : Int), k ≤ len ∧ s12 = .int .i64 k ∧ s11 = .int .i64 last ∧ Hid (TwInv w r N first step k last wr)) (fun _ s12 _ => len - (intOf s12).toNat)
  case atStart => exact ⟨0, 0, Nat.zero_le _, rfl, rfl, H0.out⟩
  case round =>
    clear H0 HNE
    obtain ⟨k, last, hk, rfl, rfl, hinv⟩ := hrel
    obtain ⟨S, R, m, hst, hcm, hl0, hl1⟩ := hinv.out.ex
    clear hinv
    have hm150 : m ≤ 150 := by omega
    have hmst : (m : Int) * step ≤ 150 * 1000 := Int.mul_le_mul (by omega) hs2 (by omega) (by omega)
    have hmst0 : 0 ≤ (m : Int) * step := Int.mul_nonneg (by omega) (by omega)
    by_cases hlt : k < len
    · obtain ⟨x, hx⟩ : ∃ x, acts[k]? = some x := ⟨_, List.getElem?_eq_getElem (by rw [HLV.out]; exact hlt)⟩
      obtain ⟨ba, off, rfl, hba, hcs⟩ := hst.acts HAT.out (by rw [HLV.out]; omega)
      obtain ⟨d0, d1, d2⟩ := hcs k x hx
      obtain ⟨hk0, hk1⟩ := HOK.out k x hx
      obtain ⟨kd, xid, xv⟩ := x
      dsimp only at d0 d1 d2 hk0 hk1
      have hI1 := hst.later ((Below.refl _ wr).alloc (Nat.le_refl _) (.cells #[.int .u8 kd, .int .i64 xid, .int .i64 xv] 31))
      have hbx := Lies.new wr 31 #[.int .u8 kd, .int .i64 xid, .int .i64 xv]
      have hsz : (wr.alloc (.cells #[.int .u8 kd, .int .i64 xid, .int .i64 xv] 31)).heap.size = wr.heap.size + 1 := by simp
      have HI1 := Lib.hid hI1
      have HBX := Lib.hid hbx
      have HSZ := Lib.hid hsz
      clear hI1 hbx hsz hst hcs hx
      have hcase : kd % 6 = 0 ∨ kd % 6 = 1 ∨ kd % 6 = 2 ∨ kd % 6 = 3 ∨ kd % 6 = 4 ∨ kd % 6 = 5 := by omega
      rcases hcase with hq | hq | hq | hq | hq | hq
      · go_wp2_with fail
        refine (ids_of HI1.out.rk).mono ?_
        rintro e w2 ⟨A2, c2, rfl, ho2, hb2⟩
        have hl2 : (R.map (·.1)).length = R.length := List.length_map ..
        rw [hl2] at ho2 ⊢
        have hst2 := HI1.out.later hb2
        have f2 : w2.cell? ⟨wr.heap.size, 2, none⟩ = some (.int .i64 xv) := (HBX.out.below hb2 (by rw [HSZ.out]; omega)).cell 2
        by_cases hfull : R.length = N
        · have HF := Lib.hid (give_full hst2.rk hfull xv)
          have HST2 := Lib.hid hst2
          rw [hfull]
          clear hb2 ho2 hst2 hl2
          go_wp2_with fail
          refine HF.out.mono ?_
          rintro e w3 ⟨rfl, hb3⟩
          have HI3 : Hid (TwInv w r N first step (k + 1) last w3) := ⟨_, R, m, HST2.out.later hb3, by have := hcm; omega, hl0, hl1⟩
          clear hb3 HF HST2
          go_wp2_with fail
          go_roundw
          case rel => exact ⟨k + 1, last, by omega, by go_num, rfl, HI3⟩
          case measure => simp [intOf]; omega
        · have HG := Lib.hid (give_st hst2 (by have := hst2.rk.len; omega) (by omega) (by omega) hs1 hs2 xv)
          have hn64 : R.length ≤ 64 := Nat.le_trans hst2.rk.len hst2.rk.size
          have HST2 := Lib.hid hst2
          have HO2 := Lib.hid ho2
          have HB2 := Lib.hid hb2
          clear hb2 ho2 hst2 hl2
          generalize hrl : R.length = n at *
          have HRL := Lib.hid hrl
          clear hrl
          go_wp2_with fail
          refine HG.out.mono ?_
          rintro e w3 ⟨q, S3, hq, hu, hno, rfl, hst3, hk3, hcn⟩
          obtain ⟨y, hy⟩ : ∃ y, y = first + (m : Int) * step + (q : Int) * step := ⟨_, rfl⟩
          rw [← hy] at hno ⊢
          have hqs : 0 ≤ (q : Int) * step := Int.mul_nonneg (by omega) (by omega)
          have hms : 0 ≤ (m : Int) * step := Int.mul_nonneg (by omega) (by omega)
          have hy1 : last < y := by omega
          have hy2 : first ≤ y := by omega
          have hym : (y - first) % step = 0 := by
            rw [hy, show first + (m : Int) * step + (q : Int) * step - first = ((m : Int) + (q : Int)) * step by rw [Int.add_mul]; omega]
            exact Int.mul_emod_left _ _
          have hyb : y ≤ 2000000 := by
            have hq64 : q ≤ 64 := by have := HRL.out; omega
            have : (q : Int) * step ≤ 64 * 1000 := Int.mul_le_mul (by omega) hs2 (by omega) (by omega)
            omega
          have hmod : ((y - first) % step != 0) = false := by rw [hym]; rfl
          have hw2 : IntKind.i64.wrap (y - first) = y - first := IntWalk.i64_in _ (by omega)
          have HI3 : Hid (TwInv w r N first step (k + 1) y w3) := by
            have e1 : first + (m : Int) * step + ((q + 1 : Nat) : Int) * step = first + ((m + q + 1 : Nat) : Int) * step := by
              rw [show ((q + 1 : Nat) : Int) = (q : Int) + 1 by omega, show ((m + q + 1 : Nat) : Int) = (m : Int) + (q : Int) + 1 by omega, Int.add_mul, Int.add_mul, Int.add_mul]; omega
            rw [e1] at hst3 hcn
            refine ⟨S3, _, m + q + 1, hst3, by have := hcm; omega, by omega, ?_⟩
            rw [show ((m + q + 1 : Nat) : Int) = (m : Int) + (q : Int) + 1 by omega, Int.add_mul, Int.add_mul]; omega
          have HCELL : Hid (∀ j : Nat, j < n → ∃ (g : Nat) (z : Int), A2 = some ⟨g, 0, none⟩ ∧ w3.cell? ⟨g, j, none⟩ = some (.int .i64 z) ∧ z ≠ y) := fun j hj => by
            obtain ⟨g, hA2, hgl, hgc⟩ := ints_cell HO2.out (by rw [List.length_map, HRL.out]; omega)
            obtain ⟨x0, hx0⟩ : ∃ x0, R[j]? = some x0 := ⟨_, List.getElem?_eq_getElem (by rw [HRL.out]; exact hj)⟩
            have hz : (R.map (·.1))[j]? = some x0.1 := by rw [List.getElem?_map, hx0]; rfl
            have hgb := ints_ge (g := g) HO2.out (by rw [hA2]; rfl)
            refine ⟨g, x0.1, hA2, ?_, fun e => hno ⟨x0.2, by rw [← e]; exact List.mem_of_getElem? hx0⟩⟩
            have hns : ¬ S g := fun e => by have h1 := (HI1.out.lt g e).2; have h2 := HSZ.out; omega
            have := hgc j _ hz
            rw [← this]
            exact World.cell?_of_block (hk3.block g hgl hns)
          clear hst3 hk3 hcn hno hu hqs hms hym HG HST2 HO2 HB2
          have HY := Lib.hid hy
          clear hy
          go_wp2_with fail
          go_loop [17] (fun s17 => ∃ j : Nat, j ≤ n ∧ s17 = .int .i64 j) (fun s17 => n - (intOf s17).toNat)
          case atStart => exact ⟨0, by omega, rfl⟩
          case round =>
            obtain ⟨j, hj, rfl⟩ := hrel
            by_cases hjn : j < n
            · obtain ⟨g, z, hA2, hz, hzy⟩ := HCELL.out j hjn
              subst hA2
              have hne : (z == y) = false := by simpa using hzy
              clear hzy
              go_wp2_with fail
              go_round
              case rel => exact ⟨j + 1, by omega, by go_num⟩
              case measure => simp [intOf]; omega
            · go_wp2_with fail
              go_roundw
              case rel => exact ⟨k + 1, y, by omega, by go_num, rfl, HI3⟩
              case measure => simp [intOf]; omega
      · go_wp2_with fail
        refine (ids_of HI1.out.rk).mono ?_
        rintro e w2 ⟨A2, c2, rfl, ho2, hb2⟩
        have hl2 : (R.map (·.1)).length = R.length := List.length_map ..
        rw [hl2] at ho2 ⊢
        have hst2 := HI1.out.later hb2
        have f2 : w2.cell? ⟨wr.heap.size, 2, none⟩ = some (.int .i64 xv) := (HBX.out.below hb2 (by rw [HSZ.out]; omega)).cell 2
        by_cases hfull : R.length = N
        · have HF := Lib.hid (give_full hst2.rk hfull xv)
          have HST2 := Lib.hid hst2
          rw [hfull]
          clear hb2 ho2 hst2 hl2
          go_wp2_with fail
          refine HF.out.mono ?_
          rintro e w3 ⟨rfl, hb3⟩
          have HI3 : Hid (TwInv w r N first step (k + 1) last w3) := ⟨_, R, m, HST2.out.later hb3, by have := hcm; omega, hl0, hl1⟩
          clear hb3 HF HST2
          go_wp2_with fail
          go_roundw
          case rel => exact ⟨k + 1, last, by omega, by go_num, rfl, HI3⟩
          case measure => simp [intOf]; omega
        · have HG := Lib.hid (give_st hst2 (by have := hst2.rk.len; omega) (by omega) (by omega) hs1 hs2 xv)
          have hn64 : R.length ≤ 64 := Nat.le_trans hst2.rk.len hst2.rk.size
          have HST2 := Lib.hid hst2
          have HO2 := Lib.hid ho2
          have HB2 := Lib.hid hb2
          clear hb2 ho2 hst2 hl2
          generalize hrl : R.length = n at *
          have HRL := Lib.hid hrl
          clear hrl
          go_wp2_with fail
          refine HG.out.mono ?_
          rintro e w3 ⟨q, S3, hq, hu, hno, rfl, hst3, hk3, hcn⟩
          obtain ⟨y, hy⟩ : ∃ y, y = first + (m : Int) * step + (q : Int) * step := ⟨_, rfl⟩
          rw [← hy] at hno ⊢
          have hqs : 0 ≤ (q : Int) * step := Int.mul_nonneg (by omega) (by omega)
          have hms : 0 ≤ (m : Int) * step := Int.mul_nonneg (by omega) (by omega)
          have hy1 : last < y := by omega
          have hy2 : first ≤ y := by omega
          have hym : (y - first) % step = 0 := by
            rw [hy, show first + (m : Int) * step + (q : Int) * step - first = ((m : Int) + (q : Int)) * step by rw [Int.add_mul]; omega]
            exact Int.mul_emod_left _ _
          have hyb : y ≤ 2000000 := by
            have hq64 : q ≤ 64 := by have := HRL.out; omega
            have : (q : Int) * step ≤ 64 * 1000 := Int.mul_le_mul (by omega) hs2 (by omega) (by omega)
            omega
          have hmod : ((y - first) % step != 0) = false := by rw [hym]; rfl
          have hw2 : IntKind.i64.wrap (y - first) = y - first := IntWalk.i64_in _ (by omega)
          have HI3 : Hid (TwInv w r N first step (k + 1) y w3) := by
            have e1 : first + (m : Int) * step + ((q + 1 : Nat) : Int) * step = first + ((m + q + 1 : Nat) : Int) * step := by
              rw [show ((q + 1 : Nat) : Int) = (q : Int) + 1 by omega, show ((m + q + 1 : Nat) : Int) = (m : Int) + (q : Int) + 1 by omega, Int.add_mul, Int.add_mul, Int.add_mul]; omega
            rw [e1] at hst3 hcn
            refine ⟨S3, _, m + q + 1, hst3, by have := hcm; omega, by omega, ?_⟩
            rw [show ((m + q + 1 : Nat) : Int) = (m : Int) + (q : Int) + 1 by omega, Int.add_mul, Int.add_mul]; omega
          have HCELL : Hid (∀ j : Nat, j < n → ∃ (g : Nat) (z : Int), A2 = some ⟨g, 0, none⟩ ∧ w3.cell? ⟨g, j, none⟩ = some (.int .i64 z) ∧ z ≠ y) := fun j hj => by
            obtain ⟨g, hA2, hgl, hgc⟩ := ints_cell HO2.out (by rw [List.length_map, HRL.out]; omega)
            obtain ⟨x0, hx0⟩ : ∃ x0, R[j]? = some x0 := ⟨_, List.getElem?_eq_getElem (by rw [HRL.out]; exact hj)⟩
            have hz : (R.map (·.1))[j]? = some x0.1 := by rw [List.getElem?_map, hx0]; rfl
            have hgb := ints_ge (g := g) HO2.out (by rw [hA2]; rfl)
            refine ⟨g, x0.1, hA2, ?_, fun e => hno ⟨x0.2, by rw [← e]; exact List.mem_of_getElem? hx0⟩⟩
            have hns : ¬ S g := fun e => by have h1 := (HI1.out.lt g e).2; have h2 := HSZ.out; omega
            have := hgc j _ hz
            rw [← this]
            exact World.cell?_of_block (hk3.block g hgl hns)
          clear hst3 hk3 hcn hno hu hqs hms hym HG HST2 HO2 HB2
          have HY := Lib.hid hy
          clear hy
          go_wp2_with fail
          go_loop [17] (fun s17 => ∃ j : Nat, j ≤ n ∧ s17 = .int .i64 j) (fun s17 => n - (intOf s17).toNat)
          case atStart => exact ⟨0, by omega, rfl⟩
          case round =>
            obtain ⟨j, hj, rfl⟩ := hrel
            by_cases hjn : j < n
            · obtain ⟨g, z, hA2, hz, hzy⟩ := HCELL.out j hjn
              subst hA2
              have hne : (z == y) = false := by simpa using hzy
              clear hzy
              go_wp2_with fail
              go_round
              case rel => exact ⟨j + 1, by omega, by go_num⟩
              case measure => simp [intOf]; omega
            · go_wp2_with fail
              go_roundw
              case rel => exact ⟨k + 1, y, by omega, by go_num, rfl, HI3⟩
              case measure => simp [intOf]; omega
      · go_wp2_with fail
        refine (hold_st HI1.out xid xv).mono ?_
        rintro e w2 ⟨g2, S2, R2, rfl, hst2, hc2⟩
        have HI3 : Hid (TwInv w r N first step (k + 1) last w2) := ⟨S2, R2, m, hst2, by have := hcm; have := hc2 (first + (m : Int) * step); omega, hl0, hl1⟩
        clear hst2 hc2
        go_wp2_with fail
        go_roundw
        case rel => exact ⟨k + 1, last, by omega, by go_num, rfl, HI3⟩
        case measure => simp [intOf]; omega
      · go_wp2_with fail
        refine (drop_st HI1.out xid).mono ?_
        rintro e w2 ⟨g2, S2, R2, rfl, hst2, hc2⟩
        have HI3 : Hid (TwInv w r N first step (k + 1) last w2) := ⟨S2, R2, m, hst2, by have := hcm; have := hc2 (first + (m : Int) * step); omega, hl0, hl1⟩
        clear hst2 hc2
        go_wp2_with fail
        go_roundw
        case rel => exact ⟨k + 1, last, by omega, by go_num, rfl, HI3⟩
        case measure => simp [intOf]; omega
      · go_wp2_with fail
        refine (drop_st HI1.out xid).mono ?_
        rintro e w2 ⟨g2, S2, R2, rfl, hst2, hc2⟩
        have HI3 : Hid (TwInv w r N first step (k + 1) last w2) := ⟨S2, R2, m, hst2, by have := hcm; have := hc2 (first + (m : Int) * step); omega, hl0, hl1⟩
        clear hst2 hc2
        go_wp2_with fail
        go_roundw
        case rel => exact ⟨k + 1, last, by omega, by go_num, rfl, HI3⟩
        case measure => simp [intOf]; omega
      · go_wp2_with fail
        refine (drop_st HI1.out xid).mono ?_
        rintro e w2 ⟨g2, S2, R2, rfl, hst2, hc2⟩
        have HI3 : Hid (TwInv w r N first step (k + 1) last w2) := ⟨S2, R2, m, hst2, by have := hcm; have := hc2 (first + (m : Int) * step); omega, hl0, hl1⟩
        clear hst2 hc2
        go_wp2_with fail
        go_roundw
        case rel => exact ⟨k + 1, last, by omega, by go_num, rfl, HI3⟩
        case measure => simp [intOf]; omega
    · obtain rfl : k = len := by omega
      have hsrt := hst.rk.sorted
      have hnN := hst.rk.len
      have hsz := hst.rk.size
      have HI := Lib.hid (ids_of hst.rk)
      have HST := Lib.hid hst
      clear hst
      go_wp2_with fail
      refine HI.out.mono ?_
      rintro e w3 ⟨A3, c3, rfl, ho3, hb3⟩
      have hl3 : (R.map (·.1)).length = R.length := List.length_map ..
      rw [hl3] at ho3 ⊢
      have HB3 := Lib.hid (HST.out.later hb3).below
      have HASC : Hid (∀ j : Nat, j + 1 < R.length → ∃ (g : Nat) (x y : Int), A3 = some ⟨g, 0, none⟩ ∧ w3.cell? ⟨g, j, none⟩ = some (.int .i64 x) ∧ w3.cell? ⟨g, j + 1, none⟩ = some (.int .i64 y) ∧ x < y) := fun j hj => by
        obtain ⟨g, hA3, hgl, hgc⟩ := ints_cell ho3 (by rw [hl3]; omega)
        obtain ⟨x0, hx0⟩ : ∃ x0, R[j]? = some x0 := ⟨_, List.getElem?_eq_getElem (by omega)⟩
        obtain ⟨y0, hy0⟩ : ∃ y0, R[j + 1]? = some y0 := ⟨_, List.getElem?_eq_getElem (by omega)⟩
        have hlt := sorted_at hsrt (show j < j + 1 by omega) hx0 hy0
        exact ⟨g, x0.1, y0.1, hA3, hgc j _ (by rw [List.getElem?_map, hx0]; rfl), hgc (j + 1) _ (by rw [List.getElem?_map, hy0]; rfl), hlt⟩
      clear hsrt ho3 hb3 HI HST hl3
      generalize R.length = n at *
      go_wp2_with fail
      go_loopw [19] (fun s19 wr => ∃ j : Nat, s19 = .int .i64 ((j : Int) + 1) ∧ j ≤ 64 ∧ Hid (Still w3 wr)) (fun s19 _ => 65 - (intOf s19).toNat)
      case atStart => exact ⟨0, rfl, by omega, Still.refl _⟩
      case round =>
        obtain ⟨j, rfl, hj64, hstl⟩ := hrel
        by_cases hjn : j + 1 < n
        · obtain ⟨g, x, y, hA3, hx, hy, hxy⟩ := HASC.out j hjn
          subst hA3
          have e1 : wr.cell? ⟨g, j, none⟩ = some (.int .i64 x) := (hstl.out.cell _).trans hx
          have e2 : wr.cell? ⟨g, j + 1, none⟩ = some (.int .i64 y) := (hstl.out.cell _).trans hy
          have hge : decide (y ≤ x) = false := by simpa using hxy
          have hjn1 : (j : Int) + 1 < (n : Int) := by omega
          have hj0 : (0 : Int) ≤ (j : Int) := by omega
          have hjn2 : (j : Int) < (n : Int) := by omega
          clear hx hy
          go_wp2_with fail
          go_quiet (fail)
          go_wp2_with fail
          go_roundw
          case rel => exact ⟨j + 1, by go_num, by omega, hstl.out.trans (Still.drewN _ _)⟩
          case measure => simp [intOf]; omega
        · have hdn : decide ((n : Int) ≤ (N : Int)) = true := by simp; omega
          go_wp2_with fail
          go_ret
          exact ⟨rfl, HB3.out.trans (hstl.out.below _)⟩

theorem twice_walk (size first step : Int) (A : Option Addr) (c : Nat) (acts : List ActD) (w : World) (hm : acts.length ≤ maxLen) (hat : ActsAt w A acts) (hok : ActsOk acts) :
    Calls Try.prog 6 #[.int .i64 size, .int .i64 first, .int .i64 step, .slice A acts.length c] w fun e w' => e = .returned (.bool true) ∧ Below w.heap.size w w' := by
  by_cases h : (first < 1 ∨ 1000 < first) ∨ (step < 1 ∨ 1000 < step)
  · exact twice_refused size first step A c acts w h
  · rcases hn : nearB acts with _ | _
    · exact twice_far size first step A c acts w hm hat (by omega) (by omega) (by omega) (by omega) hn
    · exact twice_in size first step A c acts w hm hat hok (by omega) (by omega) (by omega) (by omega) hn

end Go.Proofs.Ytcecdcdnjbndiaa.rack
