/-
  Given for the seat's laws: the contracts of the law's own without and place. No condition but those of the theorems.
-/
import Derived.Test.YtimlcjdpnhhjdaaRLib1
namespace Go.Proofs.Ytimlcjdpnhhjdaa.rk
open Go.RowKit mem sp
set_option linter.unusedVariables false

def wof (b : Bool) (which : Nat) (o : List Nat) : List Nat := (wo o which).map (fun j => if b = true ∧ which < j then j - 1 else j)
theorem wof_less (which : Nat) (o : List Nat) : wof true which o = less o which := by
  unfold wof rk.less shift
  simp
theorem wof_wo (which : Nat) (o : List Nat) : wof false which o = wo o which := by
  unfold wof
  simp
theorem wof_skip {b : Bool} {which : Nat} {o : List Nat} : wof b which (o ++ [which]) = wof b which o := by
  unfold wof wo
  simp
theorem wof_add {b : Bool} {which x : Nat} {o : List Nat} (h : x ≠ which) : wof b which (o ++ [x]) = wof b which o ++ [if b = true ∧ which < x then x - 1 else x] := by
  unfold wof wo
  simp [h]
theorem wof_len (b : Bool) (which : Nat) (o : List Nat) : (wof b which o).length ≤ o.length := by
  unfold wof wo
  rw [List.length_map]
  exact List.length_filter_le _ _
theorem nats_add (l : List Nat) (x : Nat) : nats (l ++ [x]) = nats l ++ [.int .i64 (x : Int)] := by simp [nats]
def WoTo (r : List Nat) (w : World) (e : Ending) (w' : World) : Prop := ∃ A c, e = .returned (.slice A r.length c) ∧ MadeR 3 w w' (.slice A r.length c) (nats r)

set_option maxHeartbeats 4000000 in
set_option maxRecDepth 100000 in
theorem without_any {w : World} {ok : Nat → Prop} {A : Option Addr} {n c : Nat} {o : List Nat} (hn : o.length = n) (ho : RowAt w ok A (nats o)) (hok : ∀ g, ok g → g < w.heap.size) (hmx : n ≤ 1000) (ho2 : ∀ x ∈ o, x ≤ 1000) (which : Nat) (b : Bool) :
    Calls Try.prog 20 #[.slice A n c, .int .i64 (which : Int), .bool b] w (WoTo (wof b which o) w) := by
  have HN := Bx.mk hn
  have HO := Bx.mk ho
  have HOK := Bx.mk hok
  have HXS := Bx.mk ho2
  have h0 : Bx (MadeR 3 w w (.slice none (0 : Nat) 0) (nats (wof b which (o.take 0)))) := ⟨MadeR.start _ _⟩
  obtain ⟨R, hR⟩ : ∃ R, wof b which o = R := ⟨_, rfl⟩
  have HR := Bx.mk hR
  rw [hR]
  clear hn ho hok ho2 hR
  go_enter Try.func20, Try.ntmps20
  go_wp2
  go_loopw [7, 8] (fun s7 s8 wr => ∃ (i k : Nat) (A' : Option Addr) (c' : Nat), i ≤ n ∧ k ≤ i ∧ s7 = .slice A' k c' ∧ s8 = .int .i64 (i : Int) ∧ Bx ((wof b which (o.take i)).length = k) ∧ Bx (MadeR 3 w wr (.slice A' k c') (nats (wof b which (o.take i))))) (fun _ s8 _ => n - (intOf s8).toNat)
  case atStart => exact ⟨0, 0, none, 0, by omega, by omega, rfl, rfl, ⟨rfl⟩, h0⟩
  case round =>
    clear h0
    obtain ⟨i, k, A', c', hi, hk, rfl, rfl, HK, HM⟩ := hrel
    by_cases hlt : i < n
    · obtain ⟨x, hx⟩ : ∃ x, o[i]? = some x := ⟨_, List.getElem?_eq_getElem (by rw [HN.out]; exact hlt)⟩
      have hx1000 := HXS.out x (List.mem_of_getElem? hx)
      obtain ⟨g, off, rfl, hg, cx⟩ := (HO.out.below HM.out.below HOK.out).cell (nats_get hx)
      have htk : o.take (i + 1) = o.take i ++ [x] := by rw [List.take_add_one, hx]; rfl
      have i0 : (0 : Int) ≤ (i : Int) := by omega
      have i1 : (i : Int) < (n : Int) := by omega
      by_cases hxw : x = which
      · have hsk : wof b which (o.take (i + 1)) = wof b which (o.take i) := by rw [htk, hxw]; exact wof_skip
        have e1 : ((x : Int) == (which : Int)) = true := by simp [hxw]
        have HK2 : Bx ((wof b which (o.take (i + 1))).length = k) := ⟨by rw [hsk]; exact HK.out⟩
        have HM2 : Bx (MadeR 3 w wr (.slice A' k c') (nats (wof b which (o.take (i + 1))))) := ⟨by rw [hsk]; exact HM.out⟩
        clear hx htk hsk hxw HK HM
        go_wp2
        go_roundw
        case rel => exact ⟨i + 1, k, A', c', by omega, by omega, rfl, by go_num, HK2, HM2⟩
        case measure => simp [intOf]; omega
      · have hsk := wof_add (b := b) (o := o.take i) hxw
        rw [← htk] at hsk
        obtain ⟨y, hy⟩ : ∃ y, (if b = true ∧ which < x then x - 1 else x) = y := ⟨_, rfl⟩
        rw [hy] at hsk
        obtain ⟨A2, p2, w2, ap, md, -⟩ := HM.out.push kInt (.int .i64 (y : Int)) rfl (n := k) (by rw [nats_len]; exact HK.out) (by omega) (by unfold maxLen; omega)
        rw [← nats_add, ← hsk] at md
        have HK2 : Bx ((wof b which (o.take (i + 1))).length = k + 1) := ⟨by rw [hsk, List.length_append, HK.out]; rfl⟩
        have AP := Bx.mk ap
        have HMD := Bx.mk md
        have e1 : ((x : Int) == (which : Int)) = false := beq_eq_false_iff_ne.2 (by omega)
        clear hx htk hsk ap md HK HM
        cases b with
        | false =>
          have HY : Bx (x = y) := ⟨by rw [← hy]; simp⟩
          obtain ⟨hyx⟩ := HY
          subst hyx
          clear hy hxw
          go_wp2_with (first | (at_builtin; refine wpList_append_g rfl _ _ rfl rfl rfl rfl AP.out ?_))
          go_roundw
          case rel => exact ⟨i + 1, k + 1, A2, p2, by omega, by omega, rfl, by go_num, HK2, HMD⟩
          case measure => simp [intOf]; omega
        | true =>
          by_cases hgt : which < x
          · have hgz : (which : Int) < (x : Int) := by omega
            have hyz : (x : Int) - 1 = (y : Int) := by rw [if_pos ⟨rfl, hgt⟩] at hy; omega
            clear hy hxw hgt
            go_wp2_with (first | (at_builtin; refine wpList_append_g rfl _ _ rfl rfl rfl rfl AP.out ?_))
            go_roundw
            case rel => exact ⟨i + 1, k + 1, A2, p2, by omega, by omega, rfl, by go_num, HK2, HMD⟩
            case measure => simp [intOf]; omega
          · have hgz : (x : Int) ≤ (which : Int) := by omega
            have HY : Bx (x = y) := ⟨by rw [← hy, if_neg (fun h => hgt h.2)]⟩
            obtain ⟨hyx⟩ := HY
            subst hyx
            clear hy hxw hgt
            go_wp2_with (first | (at_builtin; refine wpList_append_g rfl _ _ rfl rfl rfl rfl AP.out ?_))
            go_roundw
            case rel => exact ⟨i + 1, k + 1, A2, p2, by omega, by omega, rfl, by go_num, HK2, HMD⟩
            case measure => simp [intOf]; omega
    · obtain rfl : i = n := by omega
      have htk : o.take i = o := List.take_of_length_le (by rw [HN.out]; exact Nat.le_refl _)
      rw [htk, HR.out] at HK HM
      have hk2 := HK.out
      clear htk HK HR
      subst hk2
      go_wp2
      go_ret
      exact ⟨A', c', rfl, HM.out⟩

set_option maxHeartbeats 4000000 in
set_option maxRecDepth 100000 in
theorem place_any {w : World} {ok : Nat → Prop} {A : Option Addr} {n c : Nat} {o : List Nat} (hn : o.length = n) (ho : RowAt w ok A (nats o)) (hmx : n ≤ 1000) {which : Nat} (hw : which ∈ o) :
    Calls Try.prog 21 #[.slice A n c, .int .i64 (which : Int)] w fun e w' => e = .returned (.int .i64 (spot o which : Int)) ∧ w' = w := by
  obtain ⟨s, hs⟩ : ∃ s, spot o which = s := ⟨_, rfl⟩
  have hsl : s < n := by rw [← hs, ← hn]; exact List.idxOf_lt_length_of_mem hw
  have hat : o[s]? = some which := by
    have h : o.idxOf which < o.length := List.idxOf_lt_length_of_mem hw
    rw [← hs]
    unfold spot
    rw [List.getElem?_eq_getElem h, List.getElem_idxOf h]
  have hno : ∀ i, i < s → o[i]? ≠ some which := fun i hi e => by
    have h1 := List.getElem?_eq_some_iff.1 e
    obtain ⟨h2, h3⟩ := h1
    have h4 := List.not_of_lt_findIdx (p := fun x => x == which) (xs := o) (i := i) (by
      have : o.findIdx (fun x => x == which) = s := by rw [← hs]; rfl
      rw [this]; exact hi)
    exact absurd h3 (by simpa using h4)
  rw [hs]
  have HN := Bx.mk hn
  have HO := Bx.mk ho
  have HAT := Bx.mk hat
  have HNO := Bx.mk hno
  clear hn ho hat hno hs hw
  go_enter Try.func21, Try.ntmps21
  go_wp2
  go_loop [5] (fun s5 => ∃ i : Nat, i ≤ s ∧ s5 = .int .i64 (i : Int)) (fun s5 => n - (intOf s5).toNat)
  case atStart => exact ⟨0, by omega, rfl⟩
  case round =>
    obtain ⟨i, hi, rfl⟩ := hrel
    have hlt : i < n := by omega
    obtain ⟨x, hx⟩ : ∃ x, o[i]? = some x := ⟨_, List.getElem?_eq_getElem (by rw [HN.out]; exact hlt)⟩
    obtain ⟨g, off, rfl, hg, cx⟩ := HO.out.cell (nats_get hx)
    have i0 : (0 : Int) ≤ (i : Int) := by omega
    have i1 : (i : Int) < (n : Int) := by omega
    by_cases his : i < s
    · have hxw : x ≠ which := fun e => HNO.out i his (by rw [hx, e])
      have e1 : ((x : Int) == (which : Int)) = false := beq_eq_false_iff_ne.2 (by omega)
      clear hx hxw
      go_wp2
      go_round
      case rel => exact ⟨i + 1, by omega, by go_num⟩
      case measure => simp [intOf]; omega
    · obtain rfl : i = s := by omega
      have hxw : x = which := by have := HAT.out; rw [hx] at this; exact Option.some.inj this
      subst hxw
      clear hx
      go_wp2
      go_ret
      exact ⟨rfl, rfl⟩
end Go.Proofs.Ytimlcjdpnhhjdaa.rk
