/-
  Given for the seat's laws: the document's small functions: texts. No condition but those of the theorems.
-/
import Derived.Test.YtkclhfoeimbikaaDoorKRef1
import Derived.Test.YtkclhfoeimbikaaDoorKTake
namespace Go.Proofs.YtkclhfoeimbikaaDoor.hd
open Go.RowKit mem
set_option linter.unusedVariables false

theorem blank_drop {c : UInt8} {r : Str} (h : blank c = true) : (c :: r).dropWhile blank = r.dropWhile blank := by rw [List.dropWhile_cons, h]; simp
theorem blank_pop {c : UInt8} {r : Str} (h : blank c = true) : ((r ++ [c]).reverse.dropWhile blank).reverse = (r.reverse.dropWhile blank).reverse := by
  rw [List.reverse_append, List.reverse_singleton, List.singleton_append, blank_drop h]
theorem blank_end {c : UInt8} {r : Str} (h : blank c = false) : ((r ++ [c]).reverse.dropWhile blank).reverse = r ++ [c] := by
  rw [List.reverse_append, List.reverse_singleton, List.singleton_append, dropWhile_id h]
  simp
theorem snoc_of {x : Str} (h : x ≠ []) : ∃ r c, x = r ++ [c] := ⟨x.dropLast, x.getLast h, (List.dropLast_concat_getLast h).symm⟩
set_option maxHeartbeats 2000000 in
theorem Rtrim_any (l : Str) (hl : l.length ≤ 10000) (w : World) : Calls Tryd.prog 28 #[.string (S l)] w fun e w' => e = .returned (.string (S (trim l))) ∧ w' = w := by
  obtain ⟨T, hT⟩ : ∃ T, trim l = T := ⟨_, rfl⟩
  rw [hT]
  have HL := Bx.mk hl
  have HT : Bx ((l.dropWhile blank).reverse.dropWhile blank = T.reverse) := ⟨by rw [← hT]; simp [trim]⟩
  clear hT hl
  obtain ⟨M, hM⟩ : ∃ M, l.dropWhile blank = M := ⟨_, rfl⟩
  rw [hM] at HT
  have HM := Bx.mk hM
  clear hM
  go_enter Tryd.func28, Tryd.ntmps28
  go_wp2_with fail
  go_loopw [0] (fun s0 wr => ∃ x : Str, x.length ≤ 10000 ∧ s0 = .string (S x) ∧ wr = w ∧ Bx (x.dropWhile blank = M)) (fun s0 _ => match s0 with | .string t => t.size | _ => 0)
  case atStart => exact ⟨l, HL.out, rfl, rfl, HM⟩
  case round =>
    clear HM HL
    obtain ⟨x, hx, rfl, hw, H⟩ := hrel
    replace hw := hw.symm
    subst hw
    have hex : x = [] ∨ (∃ c r, x = c :: r ∧ blank c = false) ∨ (∃ c r, x = c :: r ∧ blank c = true) := by
      cases x with
      | nil => exact .inl rfl
      | cons c r => cases hb : blank c with
        | false => exact .inr (.inl ⟨c, r, rfl, hb⟩)
        | true => exact .inr (.inr ⟨c, r, rfl, hb⟩)
    have hix0 : ∀ c r, x = c :: r → ∀ W, (Instr.index 9 (.string (S x)) (.int .i64 0)).run Tryd.prog W = .ok (.int .u8 (c.toNat : Int)) W := fun c r e => str_at rfl 0 c (by rw [e]; rfl)
    obtain ⟨n, hn⟩ : ∃ n, x.length = n := ⟨_, rfl⟩
    obtain ⟨s, hs⟩ : ∃ s, s = S x := ⟨_, rfl⟩
    have hsz : s.size = n := by rw [hs, S_size, hn]
    rcases hex with e | ⟨c, r, e, hb⟩ | ⟨c, r, e, hb⟩
    rotate_right
    · have H2 : Bx (r.dropWhile blank = M) := ⟨by rw [← H.out, e, blank_drop hb]⟩
      have hrl : r.length + 1 = n := by rw [← hn, e]; rfl
      have hix := hix0 c r e
      have hsl : ∀ W, (Instr.slice 9 (.string (S x)) (some (.int .i64 1)) none none).run Tryd.prog W = .ok (.string (S r)) W := fun W => by
        have := str_from x 1 (by omega) W
        rw [e] at this ⊢
        exact this
      have hB := Rblank_any c w
      rw [hb] at hB
      have HB := Bx.mk hB
      have i0 : (0 : Int) < (n : Int) := by omega
      have hms : (S r).size < n := by rw [S_size]; omega
      have hr9 : r.length ≤ 10000 := by omega
      rw [← hs] at hix hsl ⊢
      clear hB hb H hix0 hs hn hx e hrl
      go_wp2_with fail
      refine HB.out.mono ?_
      rintro e2 w2 ⟨rfl, hw2⟩
      replace hw2 := hw2.symm
      subst hw2
      go_wp2_with fail
      go_roundw
      case rel => exact ⟨r, hr9, rfl, trivial, H2⟩
      case measure => simp [hsz]; exact hms
    · have hxM : x = M := by rw [← H.out, e]; rfl
      have hn0 : n = 0 := by rw [← hn, e]; rfl
      rw [← hxM] at HT
      have HS := Bx.mk hs
      have HX := Bx.mk hx
      rw [hn0] at hsz
      rw [← hs]
      clear H hix0 hs hn e hxM hn0 hx
      go_wp2_with fail
      clear hsz
      go_loopw [0] (fun s0 wv => ∃ y : Str, y.length ≤ 10000 ∧ s0 = .string (S y) ∧ wv = w ∧ Bx (y.reverse.dropWhile blank = T.reverse)) (fun s0 _ => match s0 with | .string t => t.size | _ => 0)
      case atStart => exact ⟨x, HX.out, by rw [HS.out], rfl, HT⟩
      case round =>
        clear HX HT HS
        obtain ⟨y, hy, rfl, hw, HT⟩ := hrel
        replace hw := hw.symm
        subst hw
        obtain ⟨t, ht⟩ : ∃ t, t = S y := ⟨_, rfl⟩
        by_cases hy0 : y = []
        · have hT0 : T = y := by
            have := HT.out
            rw [hy0] at this ⊢
            simpa using this.symm
          have hsz : t.size = 0 := by rw [ht, hy0]; rfl
          have HTt : Bx (t = S T) := ⟨by rw [ht, hT0]⟩
          rw [← ht]
          clear HT hT0 ht hy0
          go_wp2_with fail
          exact bodyPost_ret (v := .string t) (by simp [results, Tryd.results28, go_sem]) rfl ⟨by rw [HTt.out], rfl⟩
        · obtain ⟨q, d, hqd⟩ := snoc_of hy0
          obtain ⟨m, hm⟩ : ∃ m, y.length = m := ⟨_, rfl⟩
          obtain ⟨k, hk⟩ : ∃ k, q.length = k := ⟨_, rfl⟩
          have hmk : m = k + 1 := by rw [← hm, hqd]; simp [hk]
          have hsz : t.size = m := by rw [ht, S_size, hm]
          have i0 : (0 : Int) < (m : Int) := by omega
          have hme : (m : Int) - 1 = (k : Int) := by omega
          have hw0 : IntKind.i64.wrap (k : Int) = (k : Int) := IntWalk.i64_in _ (by omega)
          have hix := str_at ht k d (by rw [hqd, ← hk]; simp)
          have hB := Rblank_any d w
          cases hb : blank d with
          | false =>
            rw [hb] at hB
            have HB := Bx.mk hB
            have hT0 : T = y := by
              have := HT.out
              rw [hqd, List.reverse_append, List.reverse_singleton, List.singleton_append, dropWhile_id hb] at this
              rw [← List.reverse_inj, ← this, hqd]; simp
            have HTt : Bx (t = S T) := ⟨by rw [ht, hT0]⟩
            rw [← ht]
            clear HT hT0 hB hb hqd hm hk hy0 ht hmk hy
            go_wp2_with fail
            refine HB.out.mono ?_
            rintro e2 w2 ⟨rfl, hw2⟩
            replace hw2 := hw2.symm
            subst hw2
            go_wp2_with fail
            exact bodyPost_ret (v := .string t) (by simp [results, Tryd.results28, go_sem]) rfl ⟨by rw [HTt.out], rfl⟩
          | true =>
            rw [hb] at hB
            have HB := Bx.mk hB
            have H2 : Bx (q.reverse.dropWhile blank = T.reverse) := ⟨by
              have := HT.out
              rw [hqd, List.reverse_append, List.reverse_singleton, List.singleton_append, blank_drop hb] at this
              exact this⟩
            have hsl : ∀ W, (Instr.slice 9 (.string t) none (some (.int .i64 (k : Int))) none).run Tryd.prog W = .ok (.string (S q)) W := fun W => by
              rw [ht]
              have := str_to y k (by omega) W
              rwa [show y.take k = q by rw [hqd, List.take_left' hk]] at this
            have hms : (S q).size < m := by rw [S_size]; omega
            have hq9 : q.length ≤ 10000 := by omega
            rw [← ht]
            clear HT hB hb hqd hm hk hy0 ht hmk hy
            go_wp2_with fail
            refine HB.out.mono ?_
            rintro e2 w2 ⟨rfl, hw2⟩
            replace hw2 := hw2.symm
            subst hw2
            go_wp2_with fail
            go_roundw
            case rel => exact ⟨q, hq9, rfl, trivial, H2⟩
            case measure => simp [hsz]; exact hms
    · have hxM : x = M := by rw [← H.out, e, dropWhile_id hb]
      have hix := hix0 c r e
      have hB := Rblank_any c w
      rw [hb] at hB
      have HB := Bx.mk hB
      have hl1 : n = r.length + 1 := by rw [← hn, e]; rfl
      have i0 : (0 : Int) < (n : Int) := by omega
      rw [← hxM] at HT
      have HS := Bx.mk hs
      have HX := Bx.mk hx
      rw [← hs] at hix ⊢
      clear H hix0 hs hn e hxM hx hb hB
      go_wp2_with fail
      refine HB.out.mono ?_
      rintro e2 w2 ⟨rfl, hw2⟩
      replace hw2 := hw2.symm
      subst hw2
      clear hix HB
      go_wp2_with fail
      clear hsz
      go_loopw [0] (fun s0 wv => ∃ y : Str, y.length ≤ 10000 ∧ s0 = .string (S y) ∧ wv = w ∧ Bx (y.reverse.dropWhile blank = T.reverse)) (fun s0 _ => match s0 with | .string t => t.size | _ => 0)
      case atStart => exact ⟨x, HX.out, by rw [HS.out], rfl, HT⟩
      case round =>
        clear HX HT HS
        obtain ⟨y, hy, rfl, hw, HT⟩ := hrel
        replace hw := hw.symm
        subst hw
        obtain ⟨t, ht⟩ : ∃ t, t = S y := ⟨_, rfl⟩
        by_cases hy0 : y = []
        · have hT0 : T = y := by
            have := HT.out
            rw [hy0] at this ⊢
            simpa using this.symm
          have hsz : t.size = 0 := by rw [ht, hy0]; rfl
          have HTt : Bx (t = S T) := ⟨by rw [ht, hT0]⟩
          rw [← ht]
          clear HT hT0 ht hy0
          go_wp2_with fail
          exact bodyPost_ret (v := .string t) (by simp [results, Tryd.results28, go_sem]) rfl ⟨by rw [HTt.out], rfl⟩
        · obtain ⟨q, d, hqd⟩ := snoc_of hy0
          obtain ⟨m, hm⟩ : ∃ m, y.length = m := ⟨_, rfl⟩
          obtain ⟨k, hk⟩ : ∃ k, q.length = k := ⟨_, rfl⟩
          have hmk : m = k + 1 := by rw [← hm, hqd]; simp [hk]
          have hsz : t.size = m := by rw [ht, S_size, hm]
          have i0 : (0 : Int) < (m : Int) := by omega
          have hme : (m : Int) - 1 = (k : Int) := by omega
          have hw0 : IntKind.i64.wrap (k : Int) = (k : Int) := IntWalk.i64_in _ (by omega)
          have hix := str_at ht k d (by rw [hqd, ← hk]; simp)
          have hB := Rblank_any d w
          cases hb : blank d with
          | false =>
            rw [hb] at hB
            have HB := Bx.mk hB
            have hT0 : T = y := by
              have := HT.out
              rw [hqd, List.reverse_append, List.reverse_singleton, List.singleton_append, dropWhile_id hb] at this
              rw [← List.reverse_inj, ← this, hqd]; simp
            have HTt : Bx (t = S T) := ⟨by rw [ht, hT0]⟩
            rw [← ht]
            clear HT hT0 hB hb hqd hm hk hy0 ht hmk hy
            go_wp2_with fail
            refine HB.out.mono ?_
            rintro e2 w2 ⟨rfl, hw2⟩
            replace hw2 := hw2.symm
            subst hw2
            go_wp2_with fail
            exact bodyPost_ret (v := .string t) (by simp [results, Tryd.results28, go_sem]) rfl ⟨by rw [HTt.out], rfl⟩
          | true =>
            rw [hb] at hB
            have HB := Bx.mk hB
            have H2 : Bx (q.reverse.dropWhile blank = T.reverse) := ⟨by
              have := HT.out
              rw [hqd, List.reverse_append, List.reverse_singleton, List.singleton_append, blank_drop hb] at this
              exact this⟩
            have hsl : ∀ W, (Instr.slice 9 (.string t) none (some (.int .i64 (k : Int))) none).run Tryd.prog W = .ok (.string (S q)) W := fun W => by
              rw [ht]
              have := str_to y k (by omega) W
              rwa [show y.take k = q by rw [hqd, List.take_left' hk]] at this
            have hms : (S q).size < m := by rw [S_size]; omega
            have hq9 : q.length ≤ 10000 := by omega
            rw [← ht]
            clear HT hB hb hqd hm hk hy0 ht hmk hy
            go_wp2_with fail
            refine HB.out.mono ?_
            rintro e2 w2 ⟨rfl, hw2⟩
            replace hw2 := hw2.symm
            subst hw2
            go_wp2_with fail
            go_roundw
            case rel => exact ⟨q, hq9, rfl, trivial, H2⟩
            case measure => simp [hsz]; exact hms
end Go.Proofs.YtkclhfoeimbikaaDoor.hd
