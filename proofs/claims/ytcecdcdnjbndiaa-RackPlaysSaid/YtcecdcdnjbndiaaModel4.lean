/-
  Given for 'Rows.RackPlaysSaid': the document's New, Hold, Give, Drop. No condition but those of the theorems.
-/
import Derived.Test.YtcecdcdnjbndiaaModel3
namespace Go.Proofs.Ytcecdcdnjbndiaa.model
open Go.RowKit mem find
set_option linter.unusedVariables false

/-- what the document's New leaves -/
structure MNews (w : World) (q N : Nat) (first step : Int) (w' : World) : Prop where
  rk : MRk w' (fun g => w.heap.size ≤ g) q N first step []
  below : Below w.heap.size w w'

set_option maxHeartbeats 1000000 in
theorem mnew_ok (N : Nat) (first step : Int) (w : World) (a1 : 1 ≤ (N : Int)) (a2 : (N : Int) ≤ 64) (b1 : 1 ≤ first) (b2 : first ≤ 1000) (c1 : 1 ≤ step) (c2 : step ≤ 1000) :
    Calls Try.prog 8 #[.int .i64 (N : Int), .int .i64 first, .int .i64 step] w fun e w' => e = .returned (.tuple #[.pointer (some ⟨w.heap.size, 0, none⟩), .int .i64 0]) ∧ MNews w w.heap.size N first step w' := by
  have x1 : ¬ (N : Int) < 1 := by omega
  have x2 : ¬ (64 : Int) < (N : Int) := by omega
  have x3 : ¬ first < 1 := by omega
  have x4 : ¬ 1000 < first := by omega
  have x5 : ¬ step < 1 := by omega
  have x6 : ¬ 1000 < step := by omega
  go_enter Try.func8, Try.ntmps8
  go_wp2
  go_ret2
  refine ⟨rfl, ⟨⟨none, 0, ?_, World.ownsRow_nil _ _ _ _, fun g e => by cases e⟩, Nat.le_refl _, List.nodup_nil, Nat.zero_le _, by omega⟩, ?_⟩
  · exact Lies.new w 45 _
  · exact (Below.refl _ w).alloc (Nat.le_refl _) _

set_option maxHeartbeats 1000000 in
theorem mnew_no (size first step : Int) (w : World) (h : (size < 1 ∨ 64 < size) ∨ (first < 1 ∨ 1000 < first) ∨ (step < 1 ∨ 1000 < step)) :
    Calls Try.prog 8 #[.int .i64 size, .int .i64 first, .int .i64 step] w fun e w' => e = .returned (.tuple #[.pointer none, .int .i64 2]) ∧ w = w' := by
  by_cases h1 : size < 1
  · clear h
    go_enter Try.func8, Try.ntmps8
    go_wp2
    go_ret2
    exact ⟨rfl, rfl⟩
  by_cases h2 : 64 < size
  · clear h
    go_enter Try.func8, Try.ntmps8
    go_wp2
    go_ret2
    exact ⟨rfl, rfl⟩
  by_cases h3 : first < 1
  · clear h
    go_enter Try.func8, Try.ntmps8
    go_wp2
    go_ret2
    exact ⟨rfl, rfl⟩
  by_cases h4 : 1000 < first
  · clear h
    go_enter Try.func8, Try.ntmps8
    go_wp2
    go_ret2
    exact ⟨rfl, rfl⟩
  by_cases h5 : step < 1
  · clear h
    go_enter Try.func8, Try.ntmps8
    go_wp2
    go_ret2
    exact ⟨rfl, rfl⟩
  have h6 : 1000 < step := by omega
  clear h
  go_enter Try.func8, Try.ntmps8
  go_wp2
  go_ret2
  exact ⟨rfl, rfl⟩

section
variable {w w' : World} {T T' S : Nat → Prop} {q N : Nat} {nx st : Int} {M : List (Int × Int)}

theorem MRk.still (h : MRk w T q N nx st M) (hs : Still w w') : MRk w' T q N nx st M := h.below (hs.below _)
theorem MDid.from {w1 : World} (h : MDid T q N nx st M w1 w') (hb : Below w.heap.size w w1) : MDid T q N nx st M w w' :=
  ⟨h.rk.mono (fun g e => by rcases e with e | e; exact .inl e; exact .inr (by have := hb.size; omega)), (Keep.of_below hb T).trans (h.keep.mono hb.size (fun _ _ e => e))⟩

set_option maxHeartbeats 1000000 in
theorem mhold_wrong (h : MRk w T q N nx st M) {id : Int} (hi : id < 1 ∨ 1099511627775 < id) (v : Int) : Calls Try.prog 12 #[.pointer (some ⟨q, 0, none⟩), .int .i64 id, .int .i64 v] w fun e w' => e = .returned (.int .i64 2) ∧ w = w' := by
  by_cases h1 : id < 1
  · clear hi h
    go_enter Try.func12, Try.ntmps12
    go_wp2
    go_ret
    exact ⟨rfl, rfl⟩
  · have h2 : 1099511627775 < id := by omega
    clear hi h
    go_enter Try.func12, Try.ntmps12
    go_wp2
    go_ret
    exact ⟨rfl, rfl⟩

set_option maxHeartbeats 1000000 in
theorem mhold_used (h : MRk w T q N nx st M) {id : Int} (hin : Has M id) (h1 : 1 ≤ id) (h2 : id ≤ 1099511627775) (v : Int) : Calls Try.prog 12 #[.pointer (some ⟨q, 0, none⟩), .int .i64 id, .int .i64 v] w fun e w' => e = .returned (.int .i64 2) ∧ w = w' := by
  obtain ⟨k, u, hk⟩ := has_get hin
  have HA := Lib.hid (at_in h hk)
  have x1 : ¬ id < 1 := by omega
  have x2 : ¬ 1099511627775 < id := by omega
  clear h hk
  go_enter Try.func12, Try.ntmps12
  go_wp2_with (go_at_call 30; refine HA.out.mono ?_; rintro e w' ⟨rfl, rfl⟩)
  go_ret
  exact ⟨rfl, rfl⟩

set_option maxHeartbeats 1000000 in
theorem mhold_full (h : MRk w T q N nx st M) {id : Int} (hin : ¬ Has M id) (h1 : 1 ≤ id) (h2 : id ≤ 1099511627775) (hf : M.length = N) (v : Int) : Calls Try.prog 12 #[.pointer (some ⟨q, 0, none⟩), .int .i64 id, .int .i64 v] w fun e w' => e = .returned (.int .i64 4) ∧ Still w w' := by
  have HA := Lib.hid (at_out h hin)
  have x1 : ¬ id < 1 := by omega
  have x2 : ¬ 1099511627775 < id := by omega
  obtain ⟨A, c, hl, _⟩ := h.ex
  have c0 := hl.cell 0
  have c3 := hl.cell 3
  rw [hf] at c3
  simp at c0 c3
  clear h hl hin hf
  go_enter Try.func12, Try.ntmps12
  go_wp2_with (go_at_call 30; refine HA.out.mono ?_; rintro e w' ⟨rfl, rfl⟩)
  go_quiet (fail)
  go_wp2
  go_ret
  exact ⟨rfl, ⟨_, rfl⟩⟩

set_option maxRecDepth 100000 in
set_option maxHeartbeats 2000000 in
theorem mhold_ok (h : MRk w T q N nx st M) {id : Int} (hin : ¬ Has M id) (h1 : 1 ≤ id) (h2 : id ≤ 1099511627775) (hf : M.length < N) (v : Int) : Calls Try.prog 12 #[.pointer (some ⟨q, 0, none⟩), .int .i64 id, .int .i64 v] w fun e w' => e = .returned (.int .i64 0) ∧ MDid T q N nx st (M ++ [(id, v)]) w w' := by
  have HA := Lib.hid (at_out h hin)
  have x1 : ¬ id < 1 := by omega
  have x2 : ¬ 1099511627775 < id := by omega
  have H := Lib.hid h
  have HIN := Lib.hid hin
  have HF := Lib.hid hf
  obtain ⟨A, c, hl, hr, hA⟩ := h.ex
  have c0 := hl.cell 0
  have c3 := hl.cell 3
  have hne : ((M.length : Int) == (N : Int)) = false := by simp; omega
  have hne2 : (M.length == N) = false := by simp; omega
  simp at c0 c3
  have HLI := Lib.hid hl
  have HRW := Lib.hid hr
  have HAA := Lib.hid hA
  clear h hl hr hA hin hf
  generalize hn : M.length = n at *
  have HN := Lib.hid hn
  clear hn
  go_enter Try.func12, Try.ntmps12
  go_wp2_with (go_at_call 30; refine HA.out.mono ?_; rintro e w' ⟨rfl, rfl⟩)
  go_quiet (fail)
  generalize hW : World.drewN w _ = W
  have hst : Still w W := ⟨_, hW.symm⟩
  have hW2 := H.out.still hst
  have hl : Lies W q 45 #[.int .i64 (N : Int), .int .i64 nx, .int .i64 st, .slice A M.length c] := by rw [HN.out]; exact HLI.out.of_same (by rw [hst.heap])
  have hr : RowsAt W A c M := RowsAt.keep HRW.out (Keep.of_below (hst.below _) (fun _ => False)) (Nat.le_refl _) (fun _ _ hf => hf)
  have hl1 : Lies (W.alloc (.cells #[.int .i64 id, .int .i64 v] 65)) q 45 #[.int .i64 (N : Int), .int .i64 nx, .int .i64 st, .slice A M.length c] := hl.alloc _
  obtain ⟨A', c', W2, happ, hrow, hg, hA'⟩ := append_run (RowsAt.keep hr (Keep.of_below ((Below.refl _ W).alloc (Nat.le_refl _) (.cells #[.int .i64 id, .int .i64 v] 65)) (fun _ => False)) (Nat.le_refl _) (fun _ _ hf => hf)) W.heap.size (id, v) (Lies.new W 65 _) (by rw [HN.out]; have := H.out.size; have := HF.out; omega)
  obtain ⟨hl2, hfin⟩ := mdid_append hW2 HIN.out (by rw [HN.out]; exact HF.out) hl hr HAA.out hrow hg hA'
  have hfin' := hfin.from (hst.below _)
  have d3 := hl.cell 3
  have e3 := hl2.cell 3
  have f3 := hl2.frozen 3
  rw [HN.out] at d3 happ e3
  simp at d3 e3
  have HFIN := Lib.hid hfin'
  have HAPP := Lib.hid happ
  clear hst hW2 hl hr hl1 hrow hg hA' hl2 hfin hfin' happ hW c0 c3
  generalize (M ++ [(id, v)]).length = n' at *
  go_wp2_with (at_builtin; refine wpList_append_eq rfl _ _ 43 43 rfl rfl rfl rfl HAPP.out ?_)
  go_ret
  exact ⟨rfl, HFIN.out⟩
end

end Go.Proofs.Ytcecdcdnjbndiaa.model
