/-
  Given for the seat's laws: the law's own small. No condition but those of the theorem.
-/
import Derived.Test.YtefpplkoohnfbaaGreatDoorALOnce
namespace Go.Proofs.YtefpplkoohnfbaaGreatDoor.ak
open Go.RowKit mem hostp hw own
set_option linter.unusedVariables false

/-- small letters from the fifth place on -/
def sm (l : Str) : Str := l.take 5 ++ low (l.drop 5)
theorem sm_len (l : Str) : (sm l).length = l.length := by simp [sm, low]; omega
theorem sm_get {l : Str} {i : Nat} {c : UInt8} (h : l[i]? = some c) : (sm l)[i]? = some (if 5 ≤ i then lc c else c) := by
  have hi := (List.getElem?_eq_some_iff.1 h).1
  unfold sm
  by_cases h5 : 5 ≤ i
  · rw [if_pos h5, List.getElem?_append_right (by simp; omega)]
    simp only [List.length_take]
    rw [Nat.min_eq_left (by omega)]
    simp only [low, List.getElem?_map, List.getElem?_drop]
    rw [show 5 + (i - 5) = i by omega, h]
    rfl
  · rw [if_neg h5, List.getElem?_append_left (by simp; omega), List.getElem?_take, if_pos (by omega), h]
set_option maxRecDepth 100000 in
set_option maxHeartbeats 2000000 in
theorem small_any {w : World} {ok : Nat → Prop} {A : Option Addr} {m c : Nat} {l : Str} (hs : Spell w ok A m c l) (hok : ∀ g, ok g → g < w.heap.size) (hl : m ≤ 1000) : Calls Tryz.prog 14 #[.slice A m c, .int .i64 5] w (Gives (.string (S (sm l))) w) := by
  have hm := spell_len hs
  obtain ⟨u, hu⟩ : ∃ u, u = sm l := ⟨_, rfl⟩
  have hul : u.length = m := by rw [hu, sm_len, hm]
  rw [← hu]
  have HM := Bx.mk hm
  have HU := Bx.mk hu
  have HUL := Bx.mk hul
  have HS := Bx.mk hs
  have HOK := Bx.mk hok
  have h0 : Bx (Made w w (.slice none (0 : Nat) 0) (u.take 0)) := ⟨⟨own_none w _ _, Below.refl _ _⟩⟩
  clear hm hu hul hs hok
  go_enter Tryz.func14, Tryz.ntmps14
  go_wp2_with fail
  go_loopw [5, 6] (fun s5 s6 wr => ∃ (i : Nat) (A' : Option Addr) (c' : Nat), i ≤ m ∧ s5 = .slice A' i c' ∧ s6 = .int .i64 (i : Int) ∧ Bx (Made w wr (.slice A' i c') (u.take i))) (fun _ s6 _ => m - (intOf s6).toNat)
  case atStart => exact ⟨0, none, 0, by omega, rfl, rfl, h0⟩
  case round =>
    clear h0
    obtain ⟨i, A', c', hi, rfl, rfl, HR⟩ := hrel
    by_cases him : i < m
    · have him' : (i : Int) < (m : Int) := by omega
      obtain ⟨ch, hch⟩ : ∃ ch, l[i]? = some ch := ⟨_, List.getElem?_eq_getElem (by rw [HM.out]; exact him)⟩
      obtain ⟨g, off, rfl, hg, hcell⟩ := spell_cell (HS.out.below HR.out.below HOK.out) hch
      have hch8 := ch.toNat_lt
      have hug := sm_get hch
      obtain ⟨x, hx⟩ : ∃ x, x = (if 5 ≤ i then lc ch else ch) := ⟨_, rfl⟩
      rw [← hx, ← HU.out] at hug
      have htk : u.take (i + 1) = u.take i ++ [x] := by rw [List.take_add_one, hug]; rfl
      have hul : (u.take i).length = i := by rw [List.length_take, HUL.out]; omega
      obtain ⟨A2, c2, w2, happ, hmd⟩ := Made.push HR.out (by rw [hul]; omega) x
      rw [hul] at happ hmd
      rw [← htk] at hmd
      have HAP := Bx.mk happ
      have HMD := Bx.mk hmd
      clear happ hmd htk hul hug hch HR
      by_cases h5 : 5 ≤ i
      · have h5' : (5 : Int) ≤ (i : Int) := by omega
        rw [if_pos h5] at hx
        by_cases hr : 65 ≤ ch.toNat ∧ ch.toNat ≤ 90
        · have hxw : (ch.toNat : Int) - 65 + 97 = (x.toNat : Int) := by
            rw [hx, lc_great hr]; omega
          obtain ⟨hr1, hr2⟩ := hr
          clear hx
          go_wp2_with (at_builtin; refine wpList_append_eq rfl _ _ rfl rfl rfl rfl HAP.out ?_)
          go_roundw
          case rel => exact ⟨i + 1, A2, c2, by omega, rfl, by go_num, HMD⟩
          case measure => simp [intOf]; omega
        · have hxc : x = ch := by rw [hx, lc_else hr]
          subst hxc
          clear hx
          rcases Nat.lt_or_ge x.toNat 65 with hlo | hlo
          · clear hr
            go_wp2_with (at_builtin; refine wpList_append_eq rfl _ _ rfl rfl rfl rfl HAP.out ?_)
            go_roundw
            case rel => exact ⟨i + 1, A2, c2, by omega, rfl, by go_num, HMD⟩
            case measure => simp [intOf]; omega
          · have hhi : 90 < x.toNat := by omega
            clear hr
            go_wp2_with (at_builtin; refine wpList_append_eq rfl _ _ rfl rfl rfl rfl HAP.out ?_)
            go_roundw
            case rel => exact ⟨i + 1, A2, c2, by omega, rfl, by go_num, HMD⟩
            case measure => simp [intOf]; omega
      · have h5' : ¬ (5 : Int) ≤ (i : Int) := by omega
        rw [if_neg h5] at hx
        subst hx
        go_wp2_with (at_builtin; refine wpList_append_eq rfl _ _ rfl rfl rfl rfl HAP.out ?_)
        go_roundw
        case rel => exact ⟨i + 1, A2, c2, by omega, rfl, by go_num, HMD⟩
        case measure => simp [intOf]; omega
    · obtain rfl : i = m := by omega
      have htk : u.take i = u := List.take_of_length_le (by rw [HUL.out]; omega)
      rw [htk] at HR
      have hconv := spell_str (made_spell HR.out HUL.out)
      clear htk
      go_wp2_with fail
      exact bodyPost_ret (v := .string (S u)) (by simp [results, Tryz.results14, go_sem]) rfl ⟨rfl, HR.out.below⟩
end Go.Proofs.YtefpplkoohnfbaaGreatDoor.ak
