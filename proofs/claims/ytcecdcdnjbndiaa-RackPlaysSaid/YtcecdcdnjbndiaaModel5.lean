/-
  Given for 'Rows.RackPlaysSaid': the document's Give and Drop. No condition but those of the theorems.
-/
import Derived.Test.YtcecdcdnjbndiaaModel4
namespace Go.Proofs.Ytcecdcdnjbndiaa.model
open Go.RowKit mem find
set_option linter.unusedVariables false

section
variable {w w' : World} {T T' S : Nat → Prop} {q N : Nat} {nx st : Int} {M : List (Int × Int)}

set_option maxHeartbeats 1000000 in
theorem mgive_full (h : MRk w T q N nx st M) (hf : M.length = N) (v : Int) : Calls Try.prog 10 #[.pointer (some ⟨q, 0, none⟩), .int .i64 v] w fun e w' => e = .returned (.tuple #[.int .i64 0, .int .i64 4]) ∧ Still w w' := by
  obtain ⟨A, c, hl, _⟩ := h.ex
  have c0 := hl.cell 0
  have c3 := hl.cell 3
  rw [hf] at c3
  simp at c0 c3
  clear h hl hf
  go_enter Try.func10, Try.ntmps10
  go_wp2
  go_quiet (fail)
  go_wp2
  go_ret2
  exact ⟨rfl, ⟨_, rfl⟩⟩

theorem mrk_next (h : MRk w T q N nx st M) (n : Int) : MRk (w.setCell ⟨q, 1, none⟩ (.int .i64 n)) T q N n st M := by
  obtain ⟨A, c, h1, h2, h3⟩ := h.ex
  refine ⟨⟨A, c, h1.set 1 _, RowsAt.of_same h2 (fun g e => ?_), h3⟩, h.own, h.uniq, h.len, h.size⟩
  rw [rowOf_eq] at e
  exact Below.heap_setCell _ _ _ _ (own_apart h2 e h1 (by decide))
theorem mdid_next {W W' : World} (h : MDid T q N nx st M w W) (hs : Still W W') (n : Int) : MDid T q N n st M w (W'.setCell ⟨q, 1, none⟩ (.int .i64 n)) := by
  have hq : T q ∨ w.heap.size ≤ q := h.rk.own
  exact ⟨mrk_next (h.rk.still hs) n, (h.keep.trans (Keep.of_below (hs.below _) T)).setCell (p := ⟨q, 1, none⟩) hq.symm _⟩

/-- while the document's Give goes through the own ids -/
structure MGI (w : World) (T : Nat → Prop) (q N : Nat) (nx st : Int) (M : List (Int × Int)) (W : World) : Prop where
  rk : MRk W T q N nx st M
  keep : Keep w.heap.size T w W
theorem MGI.next {W W' : World} (h : MGI w T q N nx st M W) (hs : Still W W') (n : Int) : MGI w T q N n st M (W'.setCell ⟨q, 1, none⟩ (.int .i64 n)) :=
  ⟨mrk_next (h.rk.still hs) n, (h.keep.trans (Keep.of_below (hs.below _) T)).setCell (p := ⟨q, 1, none⟩) (.inr h.rk.own) _⟩

set_option maxRecDepth 100000 in
set_option maxHeartbeats 4000000 in
theorem mgive_in (h : MRk w T q N nx st M) (hf : M.length < N) (n1 : 1 ≤ nx) (n2 : nx ≤ 1000000) (n3 : 1 ≤ st) (n4 : st ≤ 1000) (v : Int) (q0 : Nat) (hq0 : q0 ≤ 64) (hu : ∀ j : Nat, j < q0 → Has M (nx + (j : Int) * st)) (hn : ¬ Has M (nx + (q0 : Int) * st)) :
    Calls Try.prog 10 #[.pointer (some ⟨q, 0, none⟩), .int .i64 v] w fun e w' => e = .returned (.tuple #[.int .i64 (nx + (q0 : Int) * st), .int .i64 0]) ∧ MDid T q N (nx + ((q0 + 1 : Nat) : Int) * st) st (M ++ [(nx + (q0 : Int) * st, v)]) w w' := by
  have H := Lib.hid h
  have HF := Lib.hid hf
  have HU := Lib.hid hu
  have HNO := Lib.hid hn
  obtain ⟨A, c, hl, hr, hA⟩ := h.ex
  have c0 := hl.cell 0
  have c3 := hl.cell 3
  have hne : ((M.length : Int) == (N : Int)) = false := by simp; omega
  have hne2 : (M.length == N) = false := by simp; omega
  simp at c0 c3
  clear h hl hr hA hf hu hn
  generalize hnn : M.length = n at *
  have HN := Lib.hid hnn
  clear hnn
  go_enter Try.func10, Try.ntmps10
  go_wp2
  go_quiet (fail)
  generalize hW : World.drewN w _ = W
  have hst : Still w W := ⟨_, hW.symm⟩
  have h0 : MGI w T q N nx st M W := ⟨H.out.still hst, Keep.of_below (hst.below _) T⟩
  have H0 := Lib.hid h0
  clear hst h0 hW c0 c3 hne hne2
  go_wp2_with fail
  go_loopg [30] (q0 + 1) (fun g s30 wr => ∃ k : Nat, k ≤ q0 ∧ g = q0 + 1 - k ∧ Hid (MGI w T q N (nx + (k : Int) * st) st M wr))
  case atStart => exact ⟨0, by omega, by omega, Lib.hid (by simpa using H0.out)⟩
  case round =>
    clear H0
    obtain ⟨k, hk, rfl, hinv⟩ := hrel
    obtain ⟨A1, c1, hl, hr, hA⟩ := hinv.out.rk.ex
    obtain ⟨y, hy⟩ : ∃ y, y = nx + (k : Int) * st := ⟨_, rfl⟩
    have hks : (k : Int) * st ≤ 64 * 1000 := Int.mul_le_mul (by omega) n4 (by omega) (by omega)
    have hks0 : 0 ≤ (k : Int) * st := Int.mul_nonneg (by omega) (by omega)
    have hyb : y ≤ 1100000 := by omega
    have hyp : 1 ≤ y := by omega
    have hle : y ≤ 1099511627775 := by omega
    have hngt : ¬ 1099511627775 < y := by omega
    have hyn : nx + ((k + 1 : Nat) : Int) * st = y + st := by rw [hy, show ((k + 1 : Nat) : Int) = (k : Int) + 1 by omega, Int.add_mul]; omega
    have hw : IntKind.i64.wrap (y + st) = y + st := IntWalk.i64_in _ (by omega)
    rw [← hy] at hinv hl
    have d1 : wr.cell? ⟨q, 1, none⟩ = some (.int .i64 y) := hl.cell 1
    have d2 : wr.cell? ⟨q, 2, none⟩ = some (.int .i64 st) := hl.cell 2
    have HLI := Lib.hid hl
    have HRW := Lib.hid hr
    have HAA := Lib.hid hA
    by_cases hkq : k < q0
    · have hin : Has M y := by rw [hy]; exact HU.out k hkq
      obtain ⟨i, u, hi⟩ := has_get hin
      have HA := Lib.hid (at_in hinv.out.rk hi)
      have HY := Lib.hid hy
      have HYN := Lib.hid hyn
      clear hl hr hA hin hi hy hyn hks hks0
      go_wp2_with (go_at_call 30; refine HA.out.mono ?_; rintro e w' ⟨rfl, rfl⟩)
      go_still_tail 12, (by kernel_rfl)
      change wpList _ _ _ _ _ wr.drew
      have hs : Still wr wr.drew := Still.drew1 _
      have hnx := hinv.out.next hs (y + st)
      rw [← HYN.out] at hnx
      have f1 : wr.drew.frozen? ⟨q, 1, none⟩ = false := HLI.out.frozen 1
      have d3 : wr.drew.cell? ⟨q, 1, none⟩ = some (.int .i64 y) := d1
      rw [HYN.out] at hnx
      have HNX : Hid (MGI w T q N (nx + ((k + 1 : Nat) : Int) * st) st M (wr.drew.setCell ⟨q, 1, none⟩ (.int .i64 (y + st)))) := by rw [HYN.out]; exact hnx
      clear hnx hs d1 d2 hinv
      generalize wr.drew = w2 at *
      go_wp2_with fail
      go_roundg (q0 + 1 - (k + 1))
      case measure => omega
      case rel => exact ⟨k + 1, by omega, rfl, HNX⟩
    · obtain rfl : k = q0 := by omega
      have hno : ¬ Has M y := by rw [hy]; exact HNO.out
      have HA := Lib.hid (at_out hinv.out.rk hno)
      have HY := Lib.hid hy
      have HYN := Lib.hid hyn
      have hl1 : Lies (wr.alloc (.cells #[.int .i64 y, .int .i64 v] 65)) q 45 #[.int .i64 (N : Int), .int .i64 y, .int .i64 st, .slice A1 M.length c1] := hl.alloc _
      obtain ⟨A', c', W2, happ, hrow, hg, hA'⟩ := append_run (RowsAt.keep hr (Keep.of_below ((Below.refl _ wr).alloc (Nat.le_refl _) (.cells #[.int .i64 y, .int .i64 v] 65)) (fun _ => False)) (Nat.le_refl _) (fun _ _ hf => hf)) wr.heap.size (y, v) (Lies.new wr 65 _) (by rw [HN.out]; have := H.out.size; have := HF.out; omega)
      obtain ⟨hl2, hfin⟩ := mdid_append hinv.out.rk hno (by rw [HN.out]; exact HF.out) hl hr hA hrow hg hA'
      have hfin2 : MDid T q N y st (M ++ [(y, v)]) w (W2.setCell ⟨q, 3, none⟩ (.slice A' (M ++ [(y, v)]).length c')) :=
        ⟨hfin.rk.mono (fun g e => by rcases e with e | e; exact .inl e; exact .inr (by have := hinv.out.keep.size; omega)), hinv.out.keep.trans (hfin.keep.mono hinv.out.keep.size (fun _ _ e => e))⟩
      have e3 := hl2.cell 3
      have e1 : W2.cell? ⟨q, 1, none⟩ = some (.int .i64 y) := hl2.cell 1
      have f3 := hl2.frozen 3
      have d4 := hl.cell 3
      rw [HN.out] at d4 happ e3
      simp at d4 e3
      have HFIN := Lib.hid hfin2
      have HAPP := Lib.hid happ
      clear hl hr hA hl1 hrow hg hA' hl2 hfin hfin2 happ hy hyn hno hks hks0 hinv HNO HU
      generalize (M ++ [(y, v)]).length = n' at *
      go_wp2_with (first
        | (go_at_call 30; refine HA.out.mono ?_; rintro e w' ⟨rfl, rfl⟩)
        | (at_builtin; refine wpList_append_eq rfl _ _ 43 43 rfl rfl rfl rfl HAPP.out ?_))
      obtain ⟨A9, c9, hl9, _⟩ := HFIN.out.rk.ex
      have g1 := hl9.cell 1
      have g2 := hl9.cell 2
      have k1 := hl9.frozen 1
      simp at g1 g2
      clear hl9 e1 e3 f3
      generalize W2.setCell ⟨q, 3, none⟩ (.slice A' n' c') = W3 at *
      go_still_tail 12, (by kernel_rfl)
      change wpList _ _ _ _ _ W3.drew
      have hs : Still W3 W3.drew := Still.drew1 _
      have hnx := mdid_next HFIN.out hs (y + st)
      have g3 : W3.drew.cell? ⟨q, 1, none⟩ = some (.int .i64 y) := g1
      have k3 : W3.drew.frozen? ⟨q, 1, none⟩ = false := k1
      have HNX := Lib.hid hnx
      clear hnx hs g1 g2 k1 HFIN
      generalize W3.drew = W4 at *
      go_wp2_with fail
      go_ret2
      refine ⟨?_, ?_⟩
      · rw [← HY.out]; rfl
      · rw [← HY.out, HYN.out]; exact HNX.out
end

end Go.Proofs.Ytcecdcdnjbndiaa.model
