/-
  Given for 'Rows.ProbePlaysSaid': the contract of the document's Add. No condition but those of the theorems.
-/
import Derived.Test.YtamcmhadodgalaaQRef
namespace Go.Proofs.Ytamcmhadodgalaa.model
open Go.RowKit mem find pb pl
set_option linter.unusedVariables false

section
variable {w w' : World} {T T' S : Nat → Prop} {q : Nat} {ev : Int} {M : List (Int × Int)}

set_option maxHeartbeats 1000000 in
theorem madd_wrong (h : MPn w T q ev M) {key : Int} (hi : key < 1 ∨ 1099511627775 < key) : Calls Try.prog 11 #[.pointer (some ⟨q, 0, none⟩), .int .i64 key] w fun e w' => e = .returned (.int .i64 2) ∧ w = w' := by
  by_cases h1 : key < 1
  · clear hi h
    go_enter Try.func11, Try.ntmps11
    go_wp2
    go_ret
    exact ⟨rfl, rfl⟩
  · have h2 : 1099511627775 < key := by omega
    clear hi h
    go_enter Try.func11, Try.ntmps11
    go_wp2
    go_ret
    exact ⟨rfl, rfl⟩

set_option maxHeartbeats 1000000 in
theorem madd_has (h : MPn w T q ev M) {key : Int} (h1 : 1 ≤ key) (h2 : key ≤ 1099511627775) (hk : idx key M < M.length) : Calls Try.prog 11 #[.pointer (some ⟨q, 0, none⟩), .int .i64 key] w fun e w' => e = .returned (.int .i64 2) ∧ w = w' := by
  have ha := at_any h key
  rw [atOf_in hk] at ha
  have HA := Lib.hid ha
  have x1 : ¬ key < 1 := by omega
  have x2 : ¬ 1099511627775 < key := by omega
  have hpos : (0 : Int) ≤ (idx key M : Int) := by omega
  clear h hk ha
  generalize idx key M = k at *
  go_enter Try.func11, Try.ntmps11
  go_wp2_with (go_at_call 28; refine HA.out.mono ?_; rintro e w' ⟨rfl, rfl⟩)
  go_ret
  exact ⟨rfl, rfl⟩

set_option maxHeartbeats 1000000 in
theorem madd_full (h : MPn w T q ev M) {key : Int} (h1 : 1 ≤ key) (h2 : key ≤ 1099511627775) (hk : ¬ idx key M < M.length) (hf : M.length = 64) : Calls Try.prog 11 #[.pointer (some ⟨q, 0, none⟩), .int .i64 key] w fun e w' => e = .returned (.int .i64 4) ∧ w = w' := by
  have ha := at_any h key
  rw [atOf_out hk] at ha
  have HA := Lib.hid ha
  have x1 : ¬ key < 1 := by omega
  have x2 : ¬ 1099511627775 < key := by omega
  obtain ⟨A, c, hl, _⟩ := h.ex
  rw [hf] at hl
  have c1 := hl.cell 1
  simp at c1
  clear h hk ha hl hf
  go_enter Try.func11, Try.ntmps11
  go_wp2_with (go_at_call 28; refine HA.out.mono ?_; rintro e w' ⟨rfl, rfl⟩)
  go_ret
  exact ⟨rfl, rfl⟩

/-- what has been copied, up to row i, the new row among it or not -/
def addL (key : Int) (M : List (Int × Int)) (i : Nat) : List (Int × Int) := if pos key M < i then M.take (pos key M) ++ (key, 0) :: (M.take i).drop (pos key M) else M.take i
def addB (key : Int) (M : List (Int × Int)) (i : Nat) : Bool := decide (pos key M < i)
theorem addL_zero (key : Int) (M : List (Int × Int)) : addL key M 0 = [] := by simp [addL]
theorem addL_len (key : Int) (M : List (Int × Int)) (i : Nat) : (addL key M i).length ≤ i + 1 := by unfold addL; split <;> simp <;> omega
/-- the round at which the new row goes in -/
theorem add_here {key : Int} {M : List (Int × Int)} {i : Nat} {x : Int × Int} (hx : M[i]? = some x) (hb : addB key M i = false) (hk : key < x.1) : addB key M (i + 1) = true ∧ addL key M (i + 1) = addL key M i ++ [(key, 0)] ++ [x] := by
  unfold addB at hb ⊢
  have hp : ¬ pos key M < i := by simpa using hb
  have hpe : pos key M = i := pos_eq (by have := (List.getElem?_eq_some_iff.1 hx).1; omega) (fun y hy => by rw [hx] at hy; cases hy; exact hk) (fun j y hj hy => pos_before (by omega) hy)
  have hil := (List.getElem?_eq_some_iff.1 hx).1
  refine ⟨by rw [hpe]; simp, ?_⟩
  unfold addL
  rw [hpe, if_pos (by omega), if_neg (by omega), take_snoc2 hx, List.drop_left' (by simp; omega)]
  simp
theorem add_ahead {key : Int} {M : List (Int × Int)} {i : Nat} {x : Int × Int} (hx : M[i]? = some x) (hb : addB key M i = false) (hk : ¬ key < x.1) : addB key M (i + 1) = false ∧ addL key M (i + 1) = addL key M i ++ [x] := by
  unfold addB at hb ⊢
  have hp : ¬ pos key M < i := by simpa using hb
  have hp2 : ¬ pos key M < i + 1 := by
    intro hlt
    have hpe : pos key M = i := by omega
    obtain ⟨y, hy, hky⟩ := pos_get (k := key) (l := M) (by have := (List.getElem?_eq_some_iff.1 hx).1; omega)
    rw [hpe, hx] at hy
    cases hy
    exact hk hky
  refine ⟨by simpa using hp2, ?_⟩
  unfold addL
  rw [if_neg hp2, if_neg hp, take_snoc2 hx]
theorem add_behind {key : Int} {M : List (Int × Int)} {i : Nat} {x : Int × Int} (hx : M[i]? = some x) (hb : addB key M i = true) : addB key M (i + 1) = true ∧ addL key M (i + 1) = addL key M i ++ [x] := by
  unfold addB at hb ⊢
  have hp : pos key M < i := by simpa using hb
  have hil := (List.getElem?_eq_some_iff.1 hx).1
  refine ⟨by simp; omega, ?_⟩
  unfold addL
  rw [if_pos (by omega), if_pos hp, take_snoc2 hx, List.drop_append_of_le_length (by simp; omega)]
  simp
theorem add_end (key : Int) (M : List (Int × Int)) : (addB key M M.length = true → addL key M M.length = pb.ins key M) ∧ (addB key M M.length = false → addL key M M.length ++ [(key, 0)] = pb.ins key M) := by
  have hpl := pos_le key M
  unfold addB addL pb.ins
  constructor
  · intro h
    have h2 : pos key M < M.length := by simpa using h
    rw [if_pos h2, List.take_of_length_le (Nat.le_refl M.length)]
  · intro h
    have h2 : ¬ pos key M < M.length := by simpa using h
    have h3 : pos key M = M.length := by omega
    rw [if_neg h2, h3]
    simp

set_option maxRecDepth 100000 in
set_option maxHeartbeats 4000000 in
theorem madd_ok (h : MPn w T q ev M) {key : Int} (h1 : 1 ≤ key) (h2 : key ≤ 1099511627775) (hk : ¬ idx key M < M.length) (hf : M.length < 64) : Calls Try.prog 11 #[.pointer (some ⟨q, 0, none⟩), .int .i64 key] w fun e w' => e = .returned (.int .i64 0) ∧ MDid T q ev (pb.ins key M) w w' := by
  have ha := at_any h key
  rw [atOf_out hk] at ha
  have HA := Lib.hid ha
  have x1 : ¬ key < 1 := by omega
  have x2 : ¬ 1099511627775 < key := by omega
  have H := Lib.hid h
  obtain ⟨A, c, hl, hr, hAA⟩ := h.ex
  have HLI := Lib.hid hl
  have HR := Lib.hid hr
  have hql := hl.lt
  have c1 := hl.cell 1
  simp at c1
  obtain ⟨n, hnn⟩ : ∃ n, M.length = n := ⟨_, rfl⟩
  have HN := Lib.hid hnn
  have hne : ((n : Int) == 64) = false := by simp; omega
  have hne2 : (n == 64) = false := by simp; omega
  rw [hnn] at c1 hf
  have h0 : DrI w none 0 (addL key M 0) w := by rw [addL_zero]; exact DrI.start w
  have H0 := Lib.hid h0
  clear h hk hl hr hAA ha hnn h0
  go_enter Try.func11, Try.ntmps11
  go_wp2_with (go_at_call 28; refine HA.out.mono ?_; rintro e w' ⟨rfl, rfl⟩)
  go_loopw [5, 6, 7] (fun s5 s6 s7 wr => ∃ (i : Nat) (b : Bool) (Al : Option Addr) (nl cl : Nat), i ≤ n ∧ s7 = .int .i64 i ∧ s6 = .bool b ∧ s5 = .slice Al nl cl ∧ Hid (addB key M i = b) ∧ Hid ((addL key M i).length = nl) ∧ Hid (DrI w Al cl (addL key M i) wr)) (fun _ _ s7 _ => n - (intOf s7).toNat)
  case atStart => exact ⟨0, false, none, 0, 0, Nat.zero_le _, rfl, rfl, rfl, Lib.hid (by simp [addB]), Lib.hid (by rw [addL_zero]; rfl), H0⟩
  case round =>
    clear H0 c1
    obtain ⟨i, b, Al, nl, cl, hi, rfl, rfl, rfl, hb, hnl, hinv⟩ := hrel
    have c1 : wr.cell? ⟨q, 1, none⟩ = some (.slice A n c) := by rw [hinv.out.below.cell (p := ⟨q, 1, none⟩) hql]; have := HLI.out.cell 1; rw [this, ← HN.out]; rfl
    by_cases hin : i < n
    · obtain ⟨x, hx⟩ : ∃ x, M[i]? = some x := ⟨_, List.getElem?_eq_getElem (by rw [HN.out]; exact hin)⟩
      obtain ⟨g, rfl, hgl, hc⟩ := model.RowsAt.cell HR.out (by rw [HN.out]; omega)
      obtain ⟨d1, d2⟩ := hc i x hx
      have e1 : wr.cell? ⟨g, i * 2, none⟩ = some (.int .i64 x.1) := (hinv.out.below.cell (p := ⟨g, i * 2, none⟩) hgl).trans d1
      have e2 : wr.cell? ⟨g, i * 2 + 1, none⟩ = some (.int .i64 x.2) := (hinv.out.below.cell (p := ⟨g, i * 2 + 1, none⟩) hgl).trans d2
      have hal := addL_len key M i
      rw [hnl.out] at hal
      cases b with
      | true =>
        obtain ⟨hb2, hL⟩ := add_behind hx hb.out
        obtain ⟨A', c', W2, happ, hmore⟩ := hinv.out.app x (by rw [hnl.out]; omega)
        rw [← hL] at hmore
        rw [hnl.out] at happ
        have HI3 := Lib.hid hmore
        have HB3 := Lib.hid hb2
        have HL3 : Hid ((addL key M (i + 1)).length = nl + 1) := Lib.hid (by rw [hL, List.length_append, hnl.out]; rfl)
        have HAPP := Lib.hid happ
        obtain ⟨x1, x2⟩ := x
        dsimp only at e1 e2 HAPP
        clear d1 d2 hx hc hinv happ hmore hnl hb hb2 hL
        go_wp2_with (at_builtin; refine wpList_append_eq rfl _ _ 51 51 rfl rfl rfl rfl HAPP.out ?_)
        go_roundw
        case rel => exact ⟨i + 1, true, A', nl + 1, c', by omega, by go_num, rfl, rfl, HB3, HL3, HI3⟩
        case measure => simp [intOf]; omega
      | false =>
        by_cases hkx : key < x.1
        · obtain ⟨hb2, hL⟩ := add_here hx hb.out hkx
          obtain ⟨A', c', W2, happ, hmore⟩ := hinv.out.app (key, 0) (by rw [hnl.out]; omega)
          obtain ⟨A2, c2, W3, happ2, hmore2⟩ := hmore.app x (by rw [List.length_append, hnl.out]; simp; omega)
          have f1 : W2.cell? ⟨g, i * 2, none⟩ = some (.int .i64 x.1) := (hmore.below.cell (p := ⟨g, i * 2, none⟩) hgl).trans d1
          have f2 : W2.cell? ⟨g, i * 2 + 1, none⟩ = some (.int .i64 x.2) := (hmore.below.cell (p := ⟨g, i * 2 + 1, none⟩) hgl).trans d2
          have f3 : W2.cell? ⟨q, 1, none⟩ = some (.slice (some ⟨g, 0, none⟩) n c) := by rw [hmore.below.cell (p := ⟨q, 1, none⟩) hql]; have := HLI.out.cell 1; rw [this, ← HN.out]; rfl
          rw [← hL] at hmore2
          rw [hnl.out] at happ
          have hl2 : (addL key M i ++ [(key, (0 : Int))]).length = nl + 1 := by rw [List.length_append, hnl.out]; rfl
          rw [hl2] at happ2
          have HI3 := Lib.hid hmore2
          have HB3 := Lib.hid hb2
          have HL3 : Hid ((addL key M (i + 1)).length = nl + 1 + 1) := Lib.hid (by rw [hL, List.length_append, hl2]; rfl)
          have HAPP := Lib.hid happ
          have HAPP2 := Lib.hid happ2
          obtain ⟨x1, x2⟩ := x
          dsimp only at e1 e2 f1 f2 hkx HAPP HAPP2
          clear d1 d2 hx hc hinv happ hmore hnl hb hb2 hL happ2 hmore2 hl2
          go_wp2_with (at_builtin; first | (refine wpList_append_eq rfl _ _ 51 51 rfl rfl rfl rfl HAPP.out ?_; clear HAPP) | (refine wpList_append_eq rfl _ _ 51 51 rfl rfl rfl rfl HAPP2.out ?_; clear HAPP2))
          go_roundw
          case rel => exact ⟨i + 1, true, A2, nl + 1 + 1, c2, by omega, by go_num, rfl, rfl, HB3, HL3, HI3⟩
          case measure => simp [intOf]; omega
        · obtain ⟨hb2, hL⟩ := add_ahead hx hb.out hkx
          obtain ⟨A', c', W2, happ, hmore⟩ := hinv.out.app x (by rw [hnl.out]; omega)
          rw [← hL] at hmore
          rw [hnl.out] at happ
          have HI3 := Lib.hid hmore
          have HB3 := Lib.hid hb2
          have HL3 : Hid ((addL key M (i + 1)).length = nl + 1) := Lib.hid (by rw [hL, List.length_append, hnl.out]; rfl)
          have HAPP := Lib.hid happ
          obtain ⟨x1, x2⟩ := x
          dsimp only at e1 e2 hkx HAPP
          clear d1 d2 hx hc hinv happ hmore hnl hb hb2 hL
          go_wp2_with (at_builtin; refine wpList_append_eq rfl _ _ 51 51 rfl rfl rfl rfl HAPP.out ?_)
          go_roundw
          case rel => exact ⟨i + 1, false, A', nl + 1, c', by omega, by go_num, rfl, rfl, HB3, HL3, HI3⟩
          case measure => simp [intOf]; omega
    · obtain rfl : i = n := by omega
      have hend := add_end key M
      rw [HN.out] at hend
      have hilen := ins_len key M
      rw [HN.out] at hilen
      cases b with
      | true =>
        have hL := hend.1 hb.out
        rw [hL] at hinv hnl
        obtain ⟨f1, c2, hfin⟩ := hinv.out.did H.out HLI.out (by omega)
        rw [hnl.out] at hfin
        have HFIN := Lib.hid hfin
        clear hfin hinv hnl hb hend hL hilen
        go_wp2
        go_ret
        exact ⟨rfl, HFIN.out⟩
      | false =>
        have hL := hend.2 hb.out
        obtain ⟨A', c', W2, happ, hmore⟩ := hinv.out.app (key, 0) (by have := addL_len key M i; omega)
        rw [hL] at hmore
        rw [hnl.out] at happ
        have hl2 : (pb.ins key M).length = nl + 1 := by rw [← hL, List.length_append, hnl.out]; rfl
        obtain ⟨f1, c2, hfin⟩ := hmore.did H.out HLI.out (by omega)
        rw [hl2] at hfin
        have HFIN := Lib.hid hfin
        have HAPP := Lib.hid happ
        dsimp only at HAPP
        clear hfin hinv hnl hb hend hL hilen hmore happ hl2
        go_wp2_with (at_builtin; refine wpList_append_eq rfl _ _ 51 51 rfl rfl rfl rfl HAPP.out ?_)
        go_ret
        exact ⟨rfl, HFIN.out⟩
end
end Go.Proofs.Ytamcmhadodgalaa.model
