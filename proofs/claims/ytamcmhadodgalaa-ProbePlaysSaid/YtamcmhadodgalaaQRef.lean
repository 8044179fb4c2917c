/-
  Given for 'Rows.ProbePlaysSaid': the document's own plan in memory, and the contracts of its New, at, Add, Drop, Every, Keys. No condition but those of the theorems.
-/
import Derived.Test.YtamcmhadodgalaaMRow
import Derived.Test.YtamcmhadodgalaaQRow
import Derived.Deep.QuietTactic
import Derived.BigQuiet
import Derived.RegionTactic
import Derived.StillTailTactics
namespace Go.Proofs.Ytamcmhadodgalaa.model
open Go.RowKit mem find pb pl
set_option linter.unusedVariables false

abbrev mhead (ev : Int) (A : Option Addr) (n c : Nat) : Array Value := #[.int .i64 ev, .slice A n c]
/-- the document's plan: its block, its period, its rows; T: the blocks that may be its own -/
structure MPn (w : World) (T : Nat → Prop) (q : Nat) (ev : Int) (M : List (Int × Int)) : Prop where
  ex : ∃ A c, Lies w q 53 (mhead ev A M.length c) ∧ model.RowsAt w A c M ∧ ∀ g, rowOf A = some g → T g
  own : T q
  len : M.length ≤ 64
/-- what a call leaves that turns it -/
structure MDid (T : Nat → Prop) (q : Nat) (ev : Int) (M : List (Int × Int)) (w w' : World) : Prop where
  pn : MPn w' (fun g => T g ∨ w.heap.size ≤ g) q ev M
  keep : Keep w.heap.size T w w'
section
variable {w w' : World} {T T' S : Nat → Prop} {q : Nat} {ev : Int} {M : List (Int × Int)}
theorem MPn.lt (h : MPn w T q ev M) : q < w.heap.size := by obtain ⟨A, c, hl, _⟩ := h.ex; exact hl.lt
theorem MPn.mono (h : MPn w T q ev M) (hs : ∀ g, T g → T' g) : MPn w T' q ev M := by
  obtain ⟨A, c, h1, h2, h3⟩ := h.ex
  exact ⟨⟨A, c, h1, h2, fun g e => hs g (h3 g e)⟩, hs q h.own, h.len⟩
theorem MPn.bounded (h : MPn w T q ev M) : MPn w (fun g => T g ∧ g < w.heap.size) q ev M := by
  obtain ⟨A, c, h1, h2, h3⟩ := h.ex
  exact ⟨⟨A, c, h1, h2, fun g e => ⟨h3 g e, model.own_lt h2 e⟩⟩, ⟨h.own, h.lt⟩, h.len⟩
theorem MPn.keep (h : MPn w T q ev M) (hk : Keep w.heap.size S w w') (hd : ∀ g, g < w.heap.size → T g → ¬ S g) : MPn w' T q ev M := by
  obtain ⟨A, c, h1, h2, h3⟩ := h.ex
  exact ⟨⟨A, c, h1.keep hk h1.lt (hd _ h1.lt h.own), model.RowsAt.keep h2 hk (Nat.le_refl _) (fun g e => hd g (model.own_lt h2 e) (h3 g e)), h3⟩, h.own, h.len⟩
theorem MPn.below (h : MPn w T q ev M) (hb : Below w.heap.size w w') : MPn w' T q ev M := h.keep (Keep.of_below hb (fun _ => False)) (fun _ _ _ hf => hf)
theorem mdid_same (h : MPn w T q ev M) (hb : Below w.heap.size w w') : MDid T q ev M w w' := ⟨(h.below hb).mono (fun g e => .inl e), Keep.of_below hb T⟩

/-! ### New, Every -/
structure MNews (w : World) (q : Nat) (ev : Int) (w' : World) : Prop where
  pn : MPn w' (fun g => w.heap.size ≤ g) q ev []
  below : Below w.heap.size w w'
set_option maxHeartbeats 1000000 in
theorem mnew_ok (ev : Int) (w : World) (h1 : 1 ≤ ev) (h2 : ev ≤ 1000) :
    Calls Try.prog 9 #[.int .i64 ev] w fun e w' => e = .returned (.tuple #[.pointer (some ⟨w.heap.size, 0, none⟩), .int .i64 0]) ∧ MNews w w.heap.size ev w' := by
  have x1 : ¬ ev < 1 := by omega
  have x2 : ¬ 1000 < ev := by omega
  go_enter Try.func9, Try.ntmps9
  go_wp2
  go_ret2
  refine ⟨rfl, ⟨⟨none, 0, ?_, World.ownsRow_nil _ _ _ _, fun g e => by cases e⟩, Nat.le_refl _, by simp⟩, ?_⟩
  · exact Lies.new w 53 _
  · exact (Below.refl _ w).alloc (Nat.le_refl _) _
set_option maxHeartbeats 1000000 in
theorem mnew_no (ev : Int) (w : World) (h : ev < 1 ∨ 1000 < ev) : Calls Try.prog 9 #[.int .i64 ev] w fun e w' => e = .returned (.tuple #[.pointer none, .int .i64 2]) ∧ w = w' := by
  by_cases h1 : ev < 1
  · clear h
    go_enter Try.func9, Try.ntmps9
    go_wp2
    go_ret2
    exact ⟨rfl, rfl⟩
  · have h2 : 1000 < ev := by omega
    clear h
    go_enter Try.func9, Try.ntmps9
    go_wp2
    go_ret2
    exact ⟨rfl, rfl⟩
set_option maxHeartbeats 1000000 in
theorem mevery_no (h : MPn w T q ev M) {n : Int} (hi : n < 1 ∨ 1000 < n) : Calls Try.prog 15 #[.pointer (some ⟨q, 0, none⟩), .int .i64 n] w fun e w' => e = .returned (.int .i64 2) ∧ w = w' := by
  by_cases h1 : n < 1
  · clear h hi
    go_enter Try.func15, Try.ntmps15
    go_wp2
    go_ret
    exact ⟨rfl, rfl⟩
  · have h2 : 1000 < n := by omega
    clear h hi
    go_enter Try.func15, Try.ntmps15
    go_wp2
    go_ret
    exact ⟨rfl, rfl⟩
set_option maxHeartbeats 1000000 in
theorem mevery_ok (h : MPn w T q ev M) {n : Int} (h1 : 1 ≤ n) (h2 : n ≤ 1000) : Calls Try.prog 15 #[.pointer (some ⟨q, 0, none⟩), .int .i64 n] w fun e w' => e = .returned (.int .i64 0) ∧ MDid T q n M w w' := by
  have x1 : ¬ n < 1 := by omega
  have x2 : ¬ 1000 < n := by omega
  obtain ⟨A, c, q1, q2, q3⟩ := h.ex
  have f0 := q1.frozen 0
  have c0 := q1.cell 0
  simp at c0
  have hfin : MDid T q n M w (w.setCell ⟨q, 0, none⟩ (.int .i64 n)) := by
    refine ⟨⟨⟨A, c, q1.set 0 _, model.RowsAt.of_same q2 (fun g e => ?_), fun g e => .inl (q3 g e)⟩, .inl h.own, h.len⟩, (Keep.refl _ T w).setCell (p := ⟨q, 0, none⟩) (.inr h.own) _⟩
    rw [rowOf_eq] at e
    exact Below.heap_setCell _ _ _ _ (model.own_apart q2 e q1 (by decide))
  have HFIN := Lib.hid hfin
  clear h q1 q2 q3 hfin
  go_enter Try.func15, Try.ntmps15
  go_wp2
  go_ret
  exact ⟨rfl, HFIN.out⟩

/-! ### at -/
/-- what at answers -/
def atOf (key : Int) (M : List (Int × Int)) : Int := if idx key M < M.length then (idx key M : Int) else -1
theorem atOf_in {key : Int} {M : List (Int × Int)} (h : idx key M < M.length) : atOf key M = (idx key M : Int) := by unfold atOf; rw [if_pos h]
theorem atOf_out {key : Int} {M : List (Int × Int)} (h : ¬ idx key M < M.length) : atOf key M = -1 := by unfold atOf; rw [if_neg h]
set_option maxHeartbeats 1000000 in
theorem at_any (h : MPn w T q ev M) (key : Int) : Calls Try.prog 28 #[.pointer (some ⟨q, 0, none⟩), .int .i64 key] w fun e w' => e = .returned (.int .i64 (atOf key M)) ∧ w = w' := by
  obtain ⟨A, c, h1, h2, h3⟩ := h.ex
  have hl64 := h.len
  have c1 := h1.cell 1
  simp at c1
  have HR := Lib.hid h2
  clear h h1 h2 h3
  generalize hn : M.length = n at *
  have HN := Lib.hid hn
  clear hn
  go_enter Try.func28, Try.ntmps28
  go_wp2
  go_loop [5] (fun s5 => ∃ j : Nat, j ≤ n ∧ s5 = .int .i64 j ∧ Hid (∀ (i : Nat) (y : Int × Int), i < j → M[i]? = some y → y.1 ≠ key)) (fun s5 => n - (intOf s5).toNat)
  case atStart => exact ⟨0, Nat.zero_le _, rfl, fun i y hi => absurd hi (by omega)⟩
  case round =>
    obtain ⟨j, hj, rfl, hno⟩ := hrel
    by_cases hjn : j < n
    · obtain ⟨g, rfl, hg, hc⟩ := model.RowsAt.cell HR.out (by rw [HN.out]; omega)
      obtain ⟨x, hx⟩ : ∃ x, M[j]? = some x := ⟨_, List.getElem?_eq_getElem (by rw [HN.out]; omega)⟩
      obtain ⟨d1, _⟩ := hc j x hx
      by_cases e : x.1 = key
      · have hi : idx key M = j := idx_eq hx e (fun i y hi hy => hno.out i y hi hy)
        have HI := Lib.hid hi
        have he : (x.1 == key) = true := by simpa using e
        clear hx hc hno hi e
        go_wp2
        go_ret
        exact ⟨by rw [atOf_in (by rw [HI.out, HN.out]; exact hjn), HI.out]; rfl, rfl⟩
      · have hno2 : Hid (∀ (i : Nat) (y : Int × Int), i < j + 1 → M[i]? = some y → y.1 ≠ key) := fun i y hi hy => by
          by_cases e' : i = j
          · subst e'; rw [hx] at hy; cases hy; exact e
          · exact hno.out i y (by omega) hy
        have he : (x.1 == key) = false := by simpa using e
        clear hx hc hno e
        go_wp2
        go_round
        case rel => exact ⟨j + 1, by omega, by go_num, hno2⟩
        case measure => simp [intOf]; omega
    · have hi : idx key M = M.length := idx_none fun i y hy => hno.out i y (by have := (List.getElem?_eq_some_iff.1 hy).1; rw [HN.out] at this; omega) hy
      have HI := Lib.hid hi
      clear hno hi
      go_wp2
      go_ret
      exact ⟨by rw [atOf_out (by rw [HI.out]; omega)]; rfl, rfl⟩

/-! ### Add, Drop: the rows are copied -/
theorem take_snoc2 {l : List (Int × Int)} {i : Nat} {x : Int × Int} (h : l[i]? = some x) : l.take (i + 1) = l.take i ++ [x] := by rw [List.take_add_one, h]; rfl
/-- while the rows are copied -/
structure DrI (w : World) (A : Option Addr) (c : Nat) (l : List (Int × Int)) (W : World) : Prop where
  rows : model.RowsAt W A c l
  below : Below w.heap.size w W
  new : ∀ g, rowOf A = some g → w.heap.size ≤ g
theorem DrI.more {W W2 : World} {A A' : Option Addr} {c c' : Nat} {l : List (Int × Int)} {x : Int × Int} (h : DrI w A c l W) (hrow : model.RowsAt W2 A' c' (l ++ [x])) (hg : (W.alloc (.cells #[.int .i64 x.1, .int .i64 x.2] 60)).grownBy W2 (rowOf A))
    (hA : ∀ g, rowOf A' = some g → rowOf A = some g ∨ (W.alloc (.cells #[.int .i64 x.1, .int .i64 x.2] 60)).heap.size ≤ g) : DrI w A' c' (l ++ [x]) W2 := by
  have hs := h.below.size
  refine ⟨hrow, ((h.below.alloc hs _)).grown hg (by simp; omega) (fun g e => h.new g e), fun g e => ?_⟩
  rcases hA g e with e1 | e1
  · exact h.new g e1
  · simp at e1; omega
/-- one row more, as an equation of the append -/
theorem DrI.app {W : World} {A : Option Addr} {c : Nat} {l : List (Int × Int)} (h : DrI w A c l W) (x : Int × Int) (hl : l.length ≤ 200) :
    ∃ A' c' W2, (Builtin.append_ #[51, 51] 51 #[.slice A l.length c, .slice (some ⟨W.heap.size, 0, none⟩) 1 1]).run Try.prog (W.alloc (.cells #[.int .i64 x.1, .int .i64 x.2] 60)) = .ok (.slice A' (l.length + 1) c') W2 ∧ DrI w A' c' (l ++ [x]) W2 := by
  obtain ⟨A', c', W2, happ, hrow, hg, hA'⟩ := model.append_run (model.RowsAt.keep h.rows (Keep.of_below ((Below.refl _ W).alloc (Nat.le_refl _) (.cells #[.int .i64 x.1, .int .i64 x.2] 60)) (fun _ => False)) (Nat.le_refl _) (fun _ _ hf => hf)) W.heap.size x (Lies.new W 60 _) (by omega)
  exact ⟨A', c', W2, by simpa using happ, h.more hrow hg hA'⟩
theorem DrI.start (w : World) : DrI w none 0 [] w := ⟨World.ownsRow_nil _ _ _ _, Below.refl _ _, fun g e => by cases e⟩
/-- the copied rows are laid into the plan -/
theorem DrI.did {W : World} {A0 A : Option Addr} {c0 c n : Nat} {l : List (Int × Int)} (h : DrI w A c l W) (hp : MPn w T q ev M) (hl0 : Lies w q 53 (mhead ev A0 n c0)) (hl : l.length ≤ 64) :
    W.frozen? ⟨q, 1, none⟩ = false ∧ W.cell? ⟨q, 1, none⟩ = some (.slice A0 n c0) ∧ MDid T q ev l w (W.setCell ⟨q, 1, none⟩ (.slice A l.length c)) := by
  have hq := hl0.lt
  have hlq := hl0.below h.below hq
  refine ⟨hlq.frozen 1, hlq.cell 1, ⟨⟨A, c, hlq.set 1 _, model.RowsAt.of_same h.rows (fun g' e => ?_), fun g' e => .inr (h.new g' e)⟩, .inl hp.own, hl⟩, (Keep.of_below h.below T).setCell (p := ⟨q, 1, none⟩) (.inr hp.own) _⟩
  rw [rowOf_eq] at e
  exact Below.heap_setCell _ _ _ _ (model.own_apart h.rows e hlq (by decide))

set_option maxHeartbeats 1000000 in
theorem mdrop_none (h : MPn w T q ev M) {key : Int} (hk : ¬ idx key M < M.length) : Calls Try.prog 13 #[.pointer (some ⟨q, 0, none⟩), .int .i64 key] w fun e w' => e = .returned (.int .i64 30) ∧ w = w' := by
  have ha := at_any h key
  rw [atOf_out hk] at ha
  have HA := Lib.hid ha
  clear h hk ha
  go_enter Try.func13, Try.ntmps13
  go_wp2_with (go_at_call 28; refine HA.out.mono ?_; rintro e w' ⟨rfl, rfl⟩)
  go_ret
  exact ⟨rfl, rfl⟩

theorem del_snoc (l : List (Int × Int)) (x : Int × Int) (k : Nat) (h : k ≠ l.length) : find.del (l ++ [x]) k = find.del l k ++ [x] := by
  unfold find.del
  rcases Nat.lt_or_gt_of_ne h with h1 | h1
  · rw [List.take_append_of_le_length (by omega), List.drop_append_of_le_length (by omega), List.append_assoc]
  · rw [List.take_of_length_le (by simp; omega), List.drop_of_length_le (by simp; omega), List.take_of_length_le (by omega), List.drop_of_length_le (by omega)]
    simp
theorem del_here (l : List (Int × Int)) (x : Int × Int) : find.del (l ++ [x]) l.length = find.del l l.length := by
  unfold find.del
  simp
theorem del_le (l : List (Int × Int)) (k : Nat) : (find.del l k).length ≤ l.length := by unfold find.del; simp; omega

set_option maxRecDepth 100000 in
set_option maxHeartbeats 2000000 in
theorem mdrop_ok (h : MPn w T q ev M) {key : Int} (hk : idx key M < M.length) : Calls Try.prog 13 #[.pointer (some ⟨q, 0, none⟩), .int .i64 key] w fun e w' => e = .returned (.int .i64 0) ∧ MDid T q ev (pb.del key M) w w' := by
  have ha := at_any h key
  rw [atOf_in hk] at ha
  have HA := Lib.hid ha
  have hl64 := h.len
  have H := Lib.hid h
  obtain ⟨A, c, hl, hr, hAA⟩ := h.ex
  have HLI := Lib.hid hl
  have hql := hl.lt
  obtain ⟨g, hAg, hgl, hc⟩ := model.RowsAt.cell hr (by omega)
  subst hAg
  have HC := Lib.hid hc
  obtain ⟨k, hkk⟩ : ∃ k, idx key M = k := ⟨_, rfl⟩
  have hdl : find.del M k = pb.del key M := by rw [← hkk]; rfl
  have HDL := Lib.hid hdl
  rw [hkk] at hk HA
  clear h hl hr hAA hc hkk hdl ha
  generalize hnn : M.length = n at *
  have HN := Lib.hid hnn
  have h0 : DrI w none 0 (find.del (M.take 0) k) w := by
    have : find.del (M.take 0) k = [] := by simp [find.del]
    rw [this]; exact DrI.start w
  have H0 := Lib.hid h0
  clear hnn h0
  go_enter Try.func13, Try.ntmps13
  go_wp2_with (go_at_call 28; refine HA.out.mono ?_; rintro e w' ⟨rfl, rfl⟩)
  go_loopw [6, 7] (fun s6 s7 wr => ∃ (i : Nat) (Al : Option Addr) (nl cl : Nat), i ≤ n ∧ s7 = .int .i64 i ∧ s6 = .slice Al nl cl ∧ Hid ((find.del (M.take i) k).length = nl) ∧ Hid (DrI w Al cl (find.del (M.take i) k) wr)) (fun _ s7 _ => n - (intOf s7).toNat)
  case atStart => exact ⟨0, none, 0, 0, Nat.zero_le _, rfl, rfl, Lib.hid (by simp [find.del]), H0⟩
  case round =>
    clear H0
    obtain ⟨i, Al, nl, cl, hi, rfl, rfl, hnl, hinv⟩ := hrel
    have c1 : wr.cell? ⟨q, 1, none⟩ = some (.slice (some ⟨g, 0, none⟩) n c) := by rw [hinv.out.below.cell (p := ⟨q, 1, none⟩) hql]; have := HLI.out.cell 1; rw [this]; rfl
    by_cases hin : i < n
    · obtain ⟨x, hx⟩ : ∃ x, M[i]? = some x := ⟨_, List.getElem?_eq_getElem (by rw [HN.out]; exact hin)⟩
      obtain ⟨d1, d2⟩ := HC.out i x hx
      have e1 : wr.cell? ⟨g, i * 2, none⟩ = some (.int .i64 x.1) := (hinv.out.below.cell (p := ⟨g, i * 2, none⟩) hgl).trans d1
      have e2 : wr.cell? ⟨g, i * 2 + 1, none⟩ = some (.int .i64 x.2) := (hinv.out.below.cell (p := ⟨g, i * 2 + 1, none⟩) hgl).trans d2
      have hti := take_snoc2 hx
      have htl : (M.take i).length = i := by rw [List.length_take, HN.out]; omega
      clear d1 d2 hx
      by_cases hik : i = k
      · subst hik
        have hde : find.del (M.take (i + 1)) i = find.del (M.take i) i := by
          rw [hti]
          have := del_here (M.take i) x
          rw [htl] at this
          exact this
        have HI3 : Hid (DrI w Al cl (find.del (M.take (i + 1)) i) wr) := by rw [hde]; exact hinv.out
        have HL3 : Hid ((find.del (M.take (i + 1)) i).length = nl) := by rw [hde]; exact hnl.out
        clear hde hti htl hinv hnl
        go_wp2
        go_roundw
        case rel => exact ⟨i + 1, Al, nl, cl, by omega, by go_num, rfl, HL3, HI3⟩
        case measure => simp [intOf]; omega
      · have hz : ((i : Int) != (k : Int)) = true := by simp; omega
        have hz2 : ((i : Int) == (k : Int)) = false := by simp; omega
        have hde : find.del (M.take (i + 1)) k = find.del (M.take i) k ++ [x] := by rw [hti]; exact del_snoc _ _ _ (by rw [htl]; omega)
        have hdle := del_le (M.take i) k
        obtain ⟨A', c', W2, happ, hmore⟩ := hinv.out.app x (by omega)
        rw [← hde] at hmore
        rw [hnl.out] at happ
        have HI3 := Lib.hid hmore
        have HL3 : Hid ((find.del (M.take (i + 1)) k).length = nl + 1) := by rw [hde, List.length_append, hnl.out]; rfl
        have HAPP := Lib.hid happ
        obtain ⟨x1, x2⟩ := x
        dsimp only at e1 e2 HAPP
        clear hde hti htl hinv happ hmore hnl hdle
        go_wp2_with (at_builtin; refine wpList_append_eq rfl _ _ 51 51 rfl rfl rfl rfl HAPP.out ?_)
        go_roundw
        case rel => exact ⟨i + 1, A', nl + 1, c', by omega, by go_num, rfl, HL3, HI3⟩
        case measure => simp [intOf]; omega
    · obtain rfl : i = n := by omega
      have hti : M.take i = M := List.take_of_length_le (by rw [HN.out]; exact Nat.le_refl _)
      rw [hti, HDL.out] at hinv
      rw [hti, HDL.out] at hnl
      have hdl2 : (pb.del key M).length ≤ 64 := by rw [← HDL.out]; have := del_le M k; rw [HN.out] at this; omega
      obtain ⟨f1, c2, hfin⟩ := hinv.out.did H.out HLI.out hdl2
      rw [hnl.out] at hfin
      have HFIN := Lib.hid hfin
      clear hfin hinv hti hnl hdl2
      go_wp2
      go_ret
      exact ⟨rfl, HFIN.out⟩
end
end Go.Proofs.Ytamcmhadodgalaa.model
