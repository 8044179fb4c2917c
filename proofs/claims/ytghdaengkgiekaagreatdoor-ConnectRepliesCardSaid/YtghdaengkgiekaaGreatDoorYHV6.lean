/-
  Given for the seat's laws: the contract of parseV6. No condition but those of the theorems.
-/
import Derived.Test.YtghdaengkgiekaaGreatDoorYHV6Pure
namespace Go.Proofs.YtghdaengkgiekaaGreatDoor.hw
open Go.RowKit mem hostp
set_option linter.unusedVariables false

theorem gc_eight {g : List Nat} (h8 : g.length = 8) : ∃ a b' c d e f i j : Int, gc g = #[.int .u16 a, .int .u16 b', .int .u16 c, .int .u16 d, .int .u16 e, .int .u16 f, .int .u16 i, .int .u16 j] := by
  obtain ⟨a, b', c, d, e, f, i, j, rfl⟩ := eight h8
  exact ⟨a, b', c, d, e, f, i, j, rfl⟩

def V6v (o : Option (List Nat)) : Value := match o with
  | some g => .tuple #[.string (S (by2 g)), .bool true]
  | none => .tuple #[.string ⟨#[]⟩, .bool false]

theorem cut_any (s : ByteArray) (hs : s.size ≤ 3000) (w : World) (he : Env w) (p r : Str) (gap : Bool) (hc : Lib.cut s.data.toList [58, 58] = (p, r, gap)) :
    Calls Tryz.prog 67 #[.string s, .string ⟨#[58, 58]⟩] w fun e w' => e = .returned (.tuple #[.string (S p), .string (S r), .bool gap]) ∧ Below w.heap.size w w' := by
  obtain ⟨m, hm⟩ := he.maxlen
  refine (Tryz.strings_Cut s ⟨#[58, 58]⟩ m w (by omega) hm).mono ?_
  rintro e w' ⟨rfl, n, rfl⟩
  rw [show (⟨#[58, 58]⟩ : ByteArray).data.toList = [58, 58] from rfl, hc]
  exact ⟨rfl, (Still.drewN w n).below _⟩

set_option maxRecDepth 100000 in
set_option maxHeartbeats 1600000 in
theorem parseV6_gap (s : ByteArray) (hs : s.size ≤ 3000) (w : World) (he : Env w) (p r : Str) (hc : cutDC s.data.toList = some (p, r)) : Calls Tryz.prog 131 #[.string s] w (Gives (V6v (pv6 s.data.toList)) w) := by
  have hl := cutDC_some hc
  have hln := congrArg List.length hl
  rw [list_len] at hln
  simp at hln
  have hcut := cut_any s hs w he p r true (by rw [cut_dc, hc])
  have hpv : pv6 s.data.toList = match g8 p, g8 r with
      | some a, some b => if 8 ≤ a.length + b.length then none else some (a ++ (List.replicate (8 - a.length - b.length) 0 ++ b))
      | _, _ => none := by unfold pv6; rw [hc]; rfl
  have HCUT := Bx.mk hcut
  have HPV := Bx.mk hpv
  have HE := Bx.mk he
  have hps : (S p).size ≤ 3000 := by rw [S_size]; omega
  have hrs : (S r).size ≤ 3000 := by rw [S_size]; omega
  clear hl hln hcut hpv hc he
  go_enter Tryz.func131, Tryz.ntmps131
  go_wp2_with fail
  refine HCUT.out.mono ?_
  rintro e w1 ⟨rfl, hb1⟩
  have hp1 := parseGroups_any (S p) hps w1 (HE.out.below hb1)
  rw [S_list] at hp1
  have HP1 := Bx.mk hp1
  have HB1 := Bx.mk hb1
  clear hp1 hb1
  go_wp2_with fail
  refine HP1.out.mono ?_
  rintro e w2 ⟨hb2, ⟨a, hga, rfl⟩ | ⟨hga, g, hg8, rfl⟩⟩
  · have HG := g8_lt hga
    have hl8 := pad8_len HG.1
    obtain ⟨x0, x1, x2, x3, x4, x5, x6, x7, hx⟩ := gc_eight hl8
    have ha8 : a.length ≤ 8 := HG.1
    unfold gv
    rw [hx]
    obtain ⟨w3, hw3⟩ : ∃ w3, w3 = w2.alloc (.cells #[.int .u16 x0, .int .u16 x1, .int .u16 x2, .int .u16 x3, .int .u16 x4, .int .u16 x5, .int .u16 x6, .int .u16 x7] 122) := ⟨_, rfl⟩
    have hb3 : Below w.heap.size w w3 := by rw [hw3]; exact (HB1.out.trans (hb2.mono HB1.out.size)).alloc (by have := HB1.out.size; have := hb2.size; omega) _
    have hl3 : Lies w3 w2.heap.size 122 (gc (pad8 a)) := by rw [hw3, hx]; exact Lies.new _ _ _
    have hp2 := parseGroups_any (S r) hrs w3 (HE.out.below hb3)
    rw [S_list] at hp2
    have HP2 := Bx.mk hp2
    have HB3 := Bx.mk hb3
    have HL3 := Bx.mk hl3
    have HGA := Bx.mk hga
    have HLT := Bx.mk HG.2
    have hz3 : w3.heap.size = w2.heap.size + 1 := by rw [hw3]; simp
    have HZ3 := Bx.mk hz3
    have hsz2 : w.heap.size ≤ w2.heap.size := by have := HB1.out.size; have := hb2.size; omega
    clear hp2 hb3 hl3 hga HG hz3 hb2 hl8 hx
    go_upto_region 3 with fail
    rw [← hw3]
    clear hw3
    go_wp2_with fail
    refine HP2.out.mono ?_
    rintro e w4 ⟨hb4, ⟨b, hgb, rfl⟩ | ⟨hgb, g, hg8, rfl⟩⟩
    · have HG := g8_lt hgb
      have hl8 := pad8_len HG.1
      obtain ⟨y0, y1, y2, y3, y4, y5, y6, y7, hy⟩ := gc_eight hl8
      have hb8 : b.length ≤ 8 := HG.1
      unfold gv
      rw [hy]
      obtain ⟨w5, hw5⟩ : ∃ w5, w5 = w4.alloc (.cells #[.int .u16 y0, .int .u16 y1, .int .u16 y2, .int .u16 y3, .int .u16 y4, .int .u16 y5, .int .u16 y6, .int .u16 y7] 122) := ⟨_, rfl⟩
      have hb5 : Below w3.heap.size w3 w5 := by rw [hw5]; exact hb4.alloc hb4.size _
      have hl5 : Lies w5 w4.heap.size 122 (gc (pad8 b)) := by rw [hw5, hy]; exact Lies.new _ _ _
      have hl6 : Lies w5 w2.heap.size 122 (gc (pad8 a)) := HL3.out.below hb5 (by rw [HZ3.out]; omega)
      have hbw : Below w.heap.size w w5 := HB3.out.trans (hb5.mono HB3.out.size)
      have hAB : w2.heap.size < w4.heap.size := by have := HZ3.out; have := hb4.size; omega
      obtain ⟨gA, hgA⟩ : ∃ gA, gA = w2.heap.size := ⟨_, rfl⟩
      obtain ⟨gB, hgB⟩ : ∃ gB, gB = w4.heap.size := ⟨_, rfl⟩
      have hpv := HPV.out
      rw [HGA.out, hgb] at hpv
      dsimp only at hpv
      have HLB := Bx.mk HG.2
      by_cases h8 : 8 ≤ a.length + b.length
      · rw [if_pos h8] at hpv
        have hd : decide ((8 : Int) ≤ (a.length : Int) + (b.length : Int)) = true := decide_eq_true (by omega)
        have HPV2 := Bx.mk hpv
        have HBW := Bx.mk hbw
        clear hpv hbw hl6 hl5 hb5 hb4 hgb HG hl8 hy
        go_upto_region 4 with fail
        rw [← hw5]
        clear hw5
        go_wp2_with fail
        go_ret2
        exact ⟨by rw [HPV2.out]; rfl, HBW.out⟩
      · rw [if_neg h8] at hpv
        have hd : decide ((8 : Int) ≤ (a.length : Int) + (b.length : Int)) = false := decide_eq_false (by omega)
        have hml : a.length + b.length ≤ 8 := by omega
        rw [← mix_end] at hpv
        rw [← mix_zero hml] at hl6
        rw [← hgA] at hl6 hAB
        rw [← hgB] at hl5 hAB
        have HPV2 := Bx.mk hpv
        have HBW := Bx.mk hbw
        have HL5 := Bx.mk hl5
        have HL6 := Bx.mk hl6
        have hwA : w.heap.size ≤ gA := by omega
        clear hpv hbw hl6 hl5 hb5 hb4 hgb HG hl8 hy h8
        obtain ⟨m, hm⟩ : ∃ m, a.length = m := ⟨_, rfl⟩
        obtain ⟨n, hn⟩ : ∃ n, b.length = n := ⟨_, rfl⟩
        rw [hm, hn] at hml
        rw [hn] at hb8
        have hn7 : n ≤ 8 := hb8
        have hm7 : m ≤ 8 := by omega
        have HM := Bx.mk hm
        have HN := Bx.mk hn
        rw [hm, hn] at hd
        rw [hm, hn]
        clear hm hn
        go_upto_region 4 with fail
        rw [← hw5, ← hgA, ← hgB]
        clear hw5 hgA hgB
        go_wp2_with fail
        go_loopw [54] (fun s54 wr => ∃ k : Nat, k ≤ n ∧ s54 = .int .i64 (k : Int) ∧ Bx (Lies wr gA 122 (gc (mix a b k))) ∧ Bx (Lies wr gB 122 (gc (pad8 b))) ∧ Bx (Below w.heap.size w wr)) (fun s54 _ => n - (intOf s54).toNat)
        case atStart => exact ⟨0, by omega, rfl, HL6, HL5, HBW⟩
        case round =>
          clear HL6 HL5 HBW
          obtain ⟨k, hk, rfl, HA, HBb, HW⟩ := hrel
          by_cases hlt : k < n
          · obtain ⟨v, hv⟩ : ∃ v, b[k]? = some v := ⟨_, List.getElem?_eq_getElem (by rw [HN.out]; exact hlt)⟩
            have hcv := HBb.out.cell k
            rw [gc_get (by rw [pad8_len (by rw [HN.out]; omega)]; omega), show (pad8 b).getD k 0 = v by
              unfold pad8
              rw [List.getD_eq_getElem?_getD, List.getElem?_append_left (by rw [HN.out]; exact hlt), hv]; rfl] at hcv
            have hst := HA.out.set (8 - n + k) (.int .u16 (v : Int))
            have hms := mix_step (a := a) (b := b) (k := k) (v := v) (by rw [HM.out, HN.out]; exact hml) hv
            rw [HN.out] at hms
            rw [gc_set, hms] at hst
            have hf := HA.out.frozen (8 - n + k)
            obtain ⟨x9, hx9⟩ : ∃ x9, wr.cell? ⟨gA, 8 - n + k, none⟩ = some x9 := by rw [HA.out.cell]; exact ⟨_, Array.getElem?_eq_getElem (by rw [gc_size, mix_len (by rw [HM.out, HN.out]; exact hml) (by rw [HN.out]; omega)]; omega)⟩
            have HST := Bx.mk hst
            have HSB := Bx.mk (HBb.out.far (p := ⟨gA, 8 - n + k, none⟩) (by show gB ≠ gA; omega) (.int .u16 (v : Int)))
            have HSW := Bx.mk (HW.out.setCell (p := ⟨gA, 8 - n + k, none⟩) hwA (.int .u16 (v : Int)))
            have i1 : (8 - (n : Int) + (k : Int)).toNat = 8 - n + k := by omega
            have i2 : 0 ≤ 8 - (n : Int) + (k : Int) := by omega
            have i3 : 8 - (n : Int) + (k : Int) < 8 := by omega
            clear hst hms hv
            go_wp2
            go_roundw
            case rel => exact ⟨k + 1, by omega, by go_num, HST, HSB, HSW⟩
            case measure => simp [intOf]; omega
          · have hkn : k = n := by omega
            have hA := HA.out
            have hmx : (mix a b k).length = 8 := mix_len (by rw [HM.out, HN.out]; exact hml) (by rw [HN.out]; omega)
            have hmlt : ∀ v ∈ mix a b k, v < 65536 := fun v hv => by
              unfold mix at hv
              rcases List.mem_append.1 hv with hv | hv
              · rcases List.mem_append.1 hv with hv | hv
                · rcases List.mem_append.1 hv with hv | hv
                  · exact HLT.out v hv
                  · rw [List.eq_of_mem_replicate hv]; omega
                · exact HLB.out v (List.mem_of_mem_take hv)
              · rw [List.eq_of_mem_replicate hv]; omega
            have hby := bytes_any (mix a b k) hmx hmlt wr
            obtain ⟨a0, a1, a2, a3, a4, a5, a6, a7, hg, c0, c1, c2, c3, c4, c5, c6, c7⟩ := gc_cells hA hmx
            unfold gv at hby
            rw [hg] at hby
            have hend : pv6 s.data.toList = some (mix a b k) := by rw [HPV2.out, hkn, HN.out]
            have HEND := Bx.mk hend
            have HBY := Bx.mk hby
            clear hby hg hend hmx hmlt hA hkn
            go_wp2_with fail
            refine HBY.out.mono ?_
            rintro e w7 ⟨rfl, hb7⟩
            have HB7 := Bx.mk (HW.out.trans (hb7.mono HW.out.size))
            clear hb7
            go_wp2_with fail
            go_ret2
            exact ⟨by rw [HEND.out]; rfl, HB7.out⟩
    · obtain ⟨y0, y1, y2, y3, y4, y5, y6, y7, hy⟩ := gc_eight hg8
      unfold gv
      rw [hy]
      have hpv := HPV.out
      rw [HGA.out, hgb] at hpv
      dsimp only at hpv
      have HPV2 := Bx.mk hpv
      have HBW := Bx.mk (HB3.out.trans ((hb4.alloc hb4.size (.cells #[.int .u16 y0, .int .u16 y1, .int .u16 y2, .int .u16 y3, .int .u16 y4, .int .u16 y5, .int .u16 y6, .int .u16 y7] 122)).mono HB3.out.size))
      clear hpv hb4 hgb hg8 hy
      go_wp2_with fail
      go_ret2
      exact ⟨by rw [HPV2.out]; rfl, HBW.out⟩
  · obtain ⟨x0, x1, x2, x3, x4, x5, x6, x7, hx⟩ := gc_eight hg8
    unfold gv
    rw [hx]
    obtain ⟨w3, hw3⟩ : ∃ w3, w3 = w2.alloc (.cells #[.int .u16 x0, .int .u16 x1, .int .u16 x2, .int .u16 x3, .int .u16 x4, .int .u16 x5, .int .u16 x6, .int .u16 x7] 122) := ⟨_, rfl⟩
    have hb3 : Below w.heap.size w w3 := by rw [hw3]; exact (HB1.out.trans (hb2.mono HB1.out.size)).alloc (by have := HB1.out.size; have := hb2.size; omega) _
    have hp2 := parseGroups_any (S r) hrs w3 (HE.out.below hb3)
    rw [S_list] at hp2
    have hpv := HPV.out
    rw [hga] at hpv
    have hpv2 : pv6 s.data.toList = none := by rw [hpv]
    have HPV2 := Bx.mk hpv2
    have HP2 := Bx.mk hp2
    have HB3 := Bx.mk hb3
    clear hp2 hb3 hga hb2 hg8 hx hpv hpv2
    go_upto_region 3 with fail
    rw [← hw3]
    clear hw3
    go_wp2_with fail
    refine HP2.out.mono ?_
    rintro e w4 ⟨hb4, hcase⟩
    obtain ⟨b, n, fine, hb8, rfl⟩ : ∃ (b : List Nat) (n : Nat) (fine : Bool), b.length = 8 ∧ e = .returned (.tuple #[gv b, .int .i64 (n : Int), .bool fine]) := by
      rcases hcase with ⟨b, hgb, rfl⟩ | ⟨hgb, g, hg8, rfl⟩
      · exact ⟨pad8 b, b.length, true, pad8_len (g8_lt hgb).1, rfl⟩
      · exact ⟨g, 0, false, hg8, rfl⟩
    clear hcase
    obtain ⟨y0, y1, y2, y3, y4, y5, y6, y7, hy⟩ := gc_eight hb8
    unfold gv
    rw [hy]
    have HBW := Bx.mk (HB3.out.trans ((hb4.alloc hb4.size (.cells #[.int .u16 y0, .int .u16 y1, .int .u16 y2, .int .u16 y3, .int .u16 y4, .int .u16 y5, .int .u16 y6, .int .u16 y7] 122)).mono HB3.out.size))
    clear hb4 hb8 hy
    go_wp2_with fail
    go_ret2
    exact ⟨by rw [HPV2.out]; rfl, HBW.out⟩
end Go.Proofs.YtghdaengkgiekaaGreatDoor.hw

/-
  Given for the seat's laws: the contract of parseV6, where there are no two colons side by side, and whole. No condition but those of the theorems.
-/
namespace Go.Proofs.YtghdaengkgiekaaGreatDoor.hw
open Go.RowKit mem hostp
set_option linter.unusedVariables false

set_option maxRecDepth 100000 in
set_option maxHeartbeats 1600000 in
theorem parseV6_no (s : ByteArray) (hs : s.size ≤ 3000) (w : World) (he : Env w) (hc : cutDC s.data.toList = none) : Calls Tryz.prog 131 #[.string s] w (Gives (V6v (pv6 s.data.toList)) w) := by
  have hcut := cut_any s hs w he s.data.toList [] false (by rw [cut_dc, hc])
  rw [S_data] at hcut
  have hpv : pv6 s.data.toList = match g8 s.data.toList with
      | some a => if a.length = 8 then some a else none
      | none => none := by unfold pv6; rw [hc]; rfl
  have HCUT := Bx.mk hcut
  have HPV := Bx.mk hpv
  have HE := Bx.mk he
  clear hcut hpv hc he
  go_enter Tryz.func131, Tryz.ntmps131
  go_wp2_with fail
  refine HCUT.out.mono ?_
  rintro e w1 ⟨rfl, hb1⟩
  have HP1 := Bx.mk (parseGroups_any s hs w1 (HE.out.below hb1))
  have HB1 := Bx.mk hb1
  clear hb1
  go_wp2_with fail
  refine HP1.out.mono ?_
  rintro e w2 ⟨hb2, ⟨a, hga, rfl⟩ | ⟨hga, g, hg8, rfl⟩⟩
  · have HG := g8_lt hga
    have hl8 := pad8_len HG.1
    obtain ⟨x0, x1, x2, x3, x4, x5, x6, x7, hx⟩ := gc_eight hl8
    have ha8 : a.length ≤ 8 := HG.1
    unfold gv
    rw [hx]
    obtain ⟨w3, hw3⟩ : ∃ w3, w3 = w2.alloc (.cells #[.int .u16 x0, .int .u16 x1, .int .u16 x2, .int .u16 x3, .int .u16 x4, .int .u16 x5, .int .u16 x6, .int .u16 x7] 122) := ⟨_, rfl⟩
    have hb3 : Below w.heap.size w w3 := by rw [hw3]; exact (HB1.out.trans (hb2.mono HB1.out.size)).alloc (by have := HB1.out.size; have := hb2.size; omega) _
    have hl3 : Lies w3 w2.heap.size 122 (gc (pad8 a)) := by rw [hw3, hx]; exact Lies.new _ _ _
    have HP2 := Bx.mk (parseGroups_any ⟨#[]⟩ (by show 0 ≤ 3000; omega) w3 (HE.out.below hb3))
    have HB3 := Bx.mk hb3
    have HL3 := Bx.mk hl3
    have HGA := Bx.mk hga
    have HLT := Bx.mk HG.2
    have hz3 : w3.heap.size = w2.heap.size + 1 := by rw [hw3]; simp
    have HZ3 := Bx.mk hz3
    have hpv := HPV.out
    rw [hga] at hpv
    dsimp only at hpv
    have HPV2 := Bx.mk hpv
    clear hb3 hl3 hga HG hz3 hb2 hl8 hx hpv
    go_upto_region 3 with fail
    rw [← hw3]
    clear hw3
    go_wp2_with fail
    refine HP2.out.mono ?_
    rintro e w4 ⟨hb4, ⟨b, hgb, rfl⟩ | ⟨hgb, _⟩⟩
    · obtain rfl : [] = b := Option.some.inj hgb
      obtain ⟨w5, hw5⟩ : ∃ w5, w5 = w4.alloc (.cells #[.int .u16 0, .int .u16 0, .int .u16 0, .int .u16 0, .int .u16 0, .int .u16 0, .int .u16 0, .int .u16 0] 122) := ⟨_, rfl⟩
      unfold gv
      rw [pad8_nil]
      have hb5 : Below w3.heap.size w3 w5 := by rw [hw5]; exact hb4.alloc hb4.size _
      have hl6 : Lies w5 w2.heap.size 122 (gc (pad8 a)) := HL3.out.below hb5 (by rw [HZ3.out]; omega)
      have hbw : Below w.heap.size w w5 := HB3.out.trans (hb5.mono HB3.out.size)
      obtain ⟨gA, hgA⟩ : ∃ gA, gA = w2.heap.size := ⟨_, rfl⟩
      rw [← hgA] at hl6
      have HBW := Bx.mk hbw
      have HL6 := Bx.mk hl6
      obtain ⟨m, hm⟩ : ∃ m, a.length = m := ⟨_, rfl⟩
      have HM := Bx.mk hm
      rw [hm]
      rw [hm] at ha8
      clear hb4 hb5 hl6 hbw hgb hm
      by_cases h8 : m = 8
      · have hne : ((m : Int) != 8) = false := by rw [h8]; rfl
        have hpv := HPV2.out
        rw [if_pos (by rw [HM.out]; exact h8)] at hpv
        have hpa : pad8 a = a := by unfold pad8; rw [HM.out, h8]; simp
        have hby := bytes_any a (by rw [HM.out]; exact h8) HLT.out w5
        have hl := HL6.out
        rw [hpa] at hl
        obtain ⟨a0, a1, a2, a3, a4, a5, a6, a7, hg, c0, c1, c2, c3, c4, c5, c6, c7⟩ := gc_cells hl (by rw [HM.out]; exact h8)
        unfold gv at hby
        rw [hg] at hby
        have HBY := Bx.mk hby
        have HEND := Bx.mk hpv
        clear hpv hpa hby hl hg h8
        go_upto_region 4 with fail
        rw [← hw5, ← hgA]
        clear hw5 hgA
        go_wp2_with fail
        refine wp_loop_rounds 1 ?_
        rw [rounds_succ]
        go_wp2_with fail
        refine HBY.out.mono ?_
        rintro e w7 ⟨rfl, hb7⟩
        have HB7 := Bx.mk (HBW.out.trans (hb7.mono HBW.out.size))
        clear hb7
        go_wp2_with fail
        go_ret2
        exact ⟨by rw [HEND.out]; rfl, HB7.out⟩
      · have hne : ((m : Int) != 8) = true := by
          have : (m : Int) ≠ 8 := by omega
          simpa using this
        have hpv := HPV2.out
        rw [if_neg (by rw [HM.out]; exact h8)] at hpv
        have HEND := Bx.mk hpv
        clear hpv h8
        go_upto_region 4 with fail
        rw [← hw5]
        clear hw5
        go_wp2_with fail
        go_ret2
        exact ⟨by rw [HEND.out]; rfl, HBW.out⟩
    · exact absurd hgb (by show ¬ g8 [] = none; rw [g8_nil]; simp)
  · obtain ⟨x0, x1, x2, x3, x4, x5, x6, x7, hx⟩ := gc_eight hg8
    unfold gv
    rw [hx]
    obtain ⟨w3, hw3⟩ : ∃ w3, w3 = w2.alloc (.cells #[.int .u16 x0, .int .u16 x1, .int .u16 x2, .int .u16 x3, .int .u16 x4, .int .u16 x5, .int .u16 x6, .int .u16 x7] 122) := ⟨_, rfl⟩
    have hb3 : Below w.heap.size w w3 := by rw [hw3]; exact (HB1.out.trans (hb2.mono HB1.out.size)).alloc (by have := HB1.out.size; have := hb2.size; omega) _
    have HP2 := Bx.mk (parseGroups_any ⟨#[]⟩ (by show 0 ≤ 3000; omega) w3 (HE.out.below hb3))
    have hpv := HPV.out
    rw [hga] at hpv
    have HPV2 := Bx.mk hpv
    have HB3 := Bx.mk hb3
    clear hb3 hga hb2 hg8 hx hpv
    go_upto_region 3 with fail
    rw [← hw3]
    clear hw3
    go_wp2_with fail
    refine HP2.out.mono ?_
    rintro e w4 ⟨hb4, hcase⟩
    obtain ⟨b, n, fine, hb8, rfl⟩ : ∃ (b : List Nat) (n : Nat) (fine : Bool), b.length = 8 ∧ e = .returned (.tuple #[gv b, .int .i64 (n : Int), .bool fine]) := by
      rcases hcase with ⟨b, hgb, rfl⟩ | ⟨hgb, g, hg8, rfl⟩
      · exact ⟨pad8 b, b.length, true, pad8_len (g8_lt hgb).1, rfl⟩
      · exact ⟨g, 0, false, hg8, rfl⟩
    clear hcase
    obtain ⟨y0, y1, y2, y3, y4, y5, y6, y7, hy⟩ := gc_eight hb8
    unfold gv
    rw [hy]
    have HBW := Bx.mk (HB3.out.trans ((hb4.alloc hb4.size (.cells #[.int .u16 y0, .int .u16 y1, .int .u16 y2, .int .u16 y3, .int .u16 y4, .int .u16 y5, .int .u16 y6, .int .u16 y7] 122)).mono HB3.out.size))
    clear hb4 hb8 hy
    go_wp2_with fail
    go_ret2
    exact ⟨by rw [HPV2.out]; rfl, HBW.out⟩

/-- the address of a text, as parseV6 gives it: with its great letters it is the plain one's -/
theorem parseV6_any (s : ByteArray) (hs : s.size ≤ 3000) (w : World) (he : Env w) : Calls Tryz.prog 131 #[.string s] w (Gives (V6v (six (low s.data.toList))) w) := by
  rw [six_pv6]
  cases hc : cutDC s.data.toList with
  | none => exact parseV6_no s hs w he hc
  | some q => exact parseV6_gap s hs w he q.1 q.2 hc
end Go.Proofs.YtghdaengkgiekaaGreatDoor.hw
