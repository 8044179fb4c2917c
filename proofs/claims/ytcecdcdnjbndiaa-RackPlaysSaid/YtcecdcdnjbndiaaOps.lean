/-
  Given for the seat's laws: the contracts of New, Get, Set, Drop, Hold, Len over a rack that New made. No condition but those of the theorems.
-/
import Derived.Test.YtcecdcdnjbndiaaRack
namespace Go.Proofs.Ytcecdcdnjbndiaa.rack
open Go.RowKit mem find
set_option linter.unusedVariables false

/-- what a call leaves that turns the rack's rows -/
structure Did (S : Nat → Prop) (r N : Nat) (nx st : Int) (R : List (Int × Int)) (w w' : World) : Prop where
  rk : Rk w' (fun g => S g ∨ w.heap.size ≤ g) r N nx st R
  keep : Keep w.heap.size S w w'

section
variable {w : World} {S : Nat → Prop} {r N : Nat} {nx st : Int} {R : List (Int × Int)}

theorem did_rows {w' : World} {n c c' : Nat} {A A' : Option Addr} {R' : List (Int × Int)} (h : Rk w S r N nx st R) (hl : Lies w' r 52 (headCs r N A n c nx st)) (hrow : RowsAt w' A' c' R') (hk : Keep w.heap.size S w w') (hA : ∀ g, rowOf A' = some g → S g ∨ w.heap.size ≤ g)
    (hs : Sorted R') (hlen : R'.length ≤ N) : Did S r N nx st R' w (w'.setCell ⟨r, 2, none⟩ (.slice A' R'.length c')) := by
  refine ⟨⟨⟨A', c', hl.set 2 _, RowsAt.of_same hrow (fun g e => ?_), hA⟩, .inl h.own, hs, hlen, h.size⟩, hk.setCell (p := ⟨r, 2, none⟩) (.inr h.own) _⟩
  rw [rowOf_eq] at e
  exact Below.heap_setCell _ _ _ _ (own_apart hrow e hl (by decide))

set_option maxHeartbeats 400000 in
theorem add_in (h : Rk w S r N nx st R) {k : Nat} {id v : Int} (hk : R[k]? = some (id, v)) (value : Int) :
    Calls Try.prog 29 #[.pointer (some ⟨r, 1, none⟩), .int .i64 id, .int .i64 value] w fun e w' => e = .returned (.bool false) ∧ Below w.heap.size w w' := by
  have HF := Lib.hid (find_in h hk)
  clear h hk
  go_enter Try.func29, Try.ntmps29
  go_wp2_with (go_at_call 31; refine HF.out.mono ?_; rintro e w' ⟨rfl, hb⟩)
  go_ret
  exact ⟨rfl, hb⟩

set_option maxRecDepth 100000 in
set_option maxHeartbeats 1000000 in
theorem add_out (h : Rk w S r N nx st R) {id : Int} (hk : ¬ Has R id) (hf : R.length < N) (value : Int) :
    Calls Try.prog 29 #[.pointer (some ⟨r, 1, none⟩), .int .i64 id, .int .i64 value] w fun e w' => e = .returned (.bool true) ∧ Did S r N nx st (insR (id, value) R) w w' := by
  have HF := Lib.hid (find_out h hk)
  have H := Lib.hid h
  have HK := Lib.hid hk
  have HL := Lib.hid hf
  clear h hk hf
  go_enter Try.func29, Try.ntmps29
  go_wp2_with fail
  refine HF.out.mono ?_
  rintro e w1 ⟨k, rfl, hfind, hb⟩
  obtain ⟨A, c, h1, h2, h3⟩ := (H.out.below hb).ex
  have HH := Lib.hid h1
  have c2 := h1.cell 2
  simp at c2
  have hbox := Lies.new w1 69 #[.int .i64 id, .int .i64 value]
  have hR2 : RowsAt (w1.alloc (.cells #[.int .i64 id, .int .i64 value] 69)) A c R := RowsAt.keep h2 (Keep.of_below ((Below.refl _ w1).alloc (Nat.le_refl _) _) (fun _ => False)) (Nat.le_refl _) (fun _ _ hf => hf)
  have HI := Lib.hid (insert_any hR2 (by have := H.out.len; have := H.out.size; omega) k hfind.le w1.heap.size (id, value) hbox (fun e => by have := own_lt h2 e; omega))
  have HE : Hid (ins R k (id, value) = insR (id, value) R) := ins_eq H.out.sorted hfind.lo hfind.hi HK.out hfind.le
  have HB := Lib.hid hb
  have H3 := Lib.hid h3
  have hl1 : Lies (w1.alloc (.cells #[.int .i64 id, .int .i64 value] 69)) r 52 (headCs r N A R.length c nx st) := h1.alloc _
  have HL1 := Lib.hid hl1
  have HR2 := Lib.hid hR2
  clear h1 h3 hb hR2 hbox hfind hl1 h2
  generalize hn : R.length = n at *
  have HN := Lib.hid hn
  clear hn
  go_wp2_with fail
  refine HI.out.mono ?_
  rintro e w2 ⟨A', c', rfl, hrow, hgr, hA'⟩
  have hl2 : Lies w2 r 52 (headCs r N A n c nx st) := HL1.out.grown hgr (fun e => by
    have := own_apart HR2.out e.symm HL1.out (by decide)
    exact this rfl)
  have hfin : Did S r N nx st (insR (id, value) R) w (w2.setCell ⟨r, 2, none⟩ (.slice A' (ins R k (id, value)).length c')) := by
    rw [HE.out] at hrow ⊢
    have hsz := HB.out.size
    have hsz2 : (w1.alloc (.cells #[.int .i64 id, .int .i64 value] 69)).heap.size = w1.heap.size + 1 := by simp
    refine did_rows H.out hl2 hrow ?_ ?_ (sorted_insR H.out.sorted HK.out) (by rw [length_insR, HN.out]; exact HL.out)
    · have kb : Keep w.heap.size S w (w1.alloc (.cells #[.int .i64 id, .int .i64 value] 69)) := (Keep.of_below HB.out S).alloc (by omega) _
      exact kb.grown hgr (by omega) (fun g e => .inr (H3.out g e))
    · intro g e
      rcases hA' g e with h | h
      · exact .inl (H3.out g h)
      · exact .inr (by omega)
  have HFIN := Lib.hid hfin
  have f2 := hl2.frozen 2
  have g2 := hl2.cell 2
  simp at g2
  clear hfin hrow hgr hA' hl2 HI
  generalize (ins R k (id, value)).length = n' at *
  go_wp2_with fail
  go_ret
  exact ⟨rfl, HFIN.out⟩

set_option maxRecDepth 100000 in
set_option maxHeartbeats 1000000 in
theorem remove_in (h : Rk w S r N nx st R) {k : Nat} {id v : Int} (hk : R[k]? = some (id, v)) :
    Calls Try.prog 33 #[.pointer (some ⟨r, 1, none⟩), .int .i64 (k : Int)] w fun e w' => e = .returned (.tuple #[]) ∧ Did S r N nx st (delR id R) w w' := by
  have hkl := (List.getElem?_eq_some_iff.1 hk).1
  have H := Lib.hid h
  obtain ⟨A, c, h1, h2, h3⟩ := h.ex
  have hlen := h.len
  have hsz := h.size
  have HD := Lib.hid (delete_any h2 (by omega) k hkl)
  have HE : Hid (del R k = delR id R) := del_eq h.sorted hk
  have HLN : Hid ((delR id R).length = R.length - 1) := length_delR h.sorted hk
  have HL := Lib.hid h1
  have H2 := Lib.hid h2
  have H3 := Lib.hid h3
  have c2 := h1.cell 2
  simp at c2
  clear h h1 h2 h3 hk
  generalize hn : R.length = n at *
  have HN := Lib.hid hn
  clear hn
  go_enter Try.func33, Try.ntmps33
  go_wp2_with fail
  refine HD.out.mono ?_
  rintro e w2 ⟨rfl, hrow, hgr⟩
  have hl2 : Lies w2 r 52 (headCs r N A n c nx st) := HL.out.grown hgr (fun e => by
    have := own_apart H2.out e.symm HL.out (by decide)
    exact this rfl)
  have hfin : Did S r N nx st (delR id R) w (w2.setCell ⟨r, 2, none⟩ (.slice A (n - 1) c)) := by
    rw [HE.out] at hrow
    rw [← HLN.out]
    refine did_rows H.out hl2 hrow ?_ (fun g e => .inl (H3.out g e)) (sorted_delR H.out.sorted) (by rw [HLN.out]; omega)
    exact (Keep.refl w.heap.size S w).grown hgr (Nat.le_refl _) (fun g e => .inr (H3.out g e))
  have HFIN := Lib.hid hfin
  have f2 := hl2.frozen 2
  have g2 := hl2.cell 2
  simp at g2
  rw [HN.out]
  clear hfin hrow hgr hl2 HD
  generalize n - 1 = n' at *
  go_wp2_with fail
  go_end0
  exact ⟨rfl, HFIN.out⟩

set_option maxHeartbeats 400000 in
theorem len_any (h : Rk w S r N nx st R) : Calls Try.prog 20 #[.pointer (some ⟨r, 0, none⟩)] w fun e w' => e = .returned (.int .i64 (R.length : Int)) ∧ w = w' := by
  have HM := Lib.hid (made_yes h)
  obtain ⟨A, c, h1, _⟩ := h.ex
  have c2 := h1.cell 2
  simp at c2
  clear h h1
  generalize R.length = n at *
  go_enter Try.func20, Try.ntmps20
  go_wp2_with (go_at_call 26; refine HM.out.mono ?_; rintro e w' ⟨rfl, rfl⟩)
  go_ret
  exact ⟨rfl, rfl⟩

set_option maxHeartbeats 1000000 in
theorem get_in (h : Rk w S r N nx st R) {k : Nat} {id v : Int} (hk : R[k]? = some (id, v)) :
    Calls Try.prog 17 #[.pointer (some ⟨r, 0, none⟩), .int .i64 id] w fun e w' => e = .returned (.tuple #[.int .i64 v, .int .i64 0]) ∧ Below w.heap.size w w' := by
  have hkl := (List.getElem?_eq_some_iff.1 hk).1
  have HP := Lib.hid (place_in h hk)
  have H := Lib.hid h
  have HK := Lib.hid hk
  clear h hk
  generalize hn : R.length = n at *
  have HN := Lib.hid hn
  clear hn
  go_enter Try.func17, Try.ntmps17
  go_wp2_with fail
  refine HP.out.mono ?_
  rintro e w1 ⟨rfl, hb⟩
  obtain ⟨A, c, h1, h2, h3⟩ := (H.out.below hb).ex
  obtain ⟨g, rfl, hg, hc⟩ := RowsAt.cell h2 (by rw [HN.out]; omega)
  obtain ⟨d1, d2⟩ := hc k _ HK.out
  have c2 := h1.cell 2
  rw [HN.out] at c2
  simp at c2
  have hsz := H.out.size
  have hlen := H.out.len
  rw [HN.out] at hlen
  have HB := Lib.hid hb
  clear h1 h2 h3 hc hb
  dsimp only at d1 d2
  go_wp2_with fail
  go_ret2
  exact ⟨rfl, HB.out⟩

set_option maxHeartbeats 400000 in
theorem get_out (h : Rk w S r N nx st R) {id : Int} (hk : ¬ Has R id) :
    Calls Try.prog 17 #[.pointer (some ⟨r, 0, none⟩), .int .i64 id] w fun e w' => e = .returned (.tuple #[.int .i64 0, .int .i64 30]) ∧ Below w.heap.size w w' := by
  have HP := Lib.hid (place_out h hk)
  clear h hk
  go_enter Try.func17, Try.ntmps17
  go_wp2_with (go_at_call 32; refine HP.out.mono ?_; rintro e w' ⟨rfl, hb⟩)
  go_ret2
  exact ⟨rfl, hb⟩

theorem flat_set (l : List (Int × Int)) (k : Nat) (x : Int × Int) (v : Int) (h : l[k]? = some x) : (flat l).set (k * 2 + 1) (.int .i64 v) = flat (l.set k (x.1, v)) := by
  induction l generalizing k with
  | nil => simp at h
  | cons a r ih =>
    cases k with
    | zero => simp at h; subst h; rfl
    | succ k =>
      rw [List.getElem?_cons_succ] at h
      rw [show (k + 1) * 2 + 1 = k * 2 + 1 + 1 + 1 by omega, List.set_cons_succ, flat_cons, flat_cons, List.set_cons_succ, List.set_cons_succ, ih k h]

theorem RowsAt.set {w : World} {g c k : Nat} {l : List (Int × Int)} {x : Int × Int} (h : RowsAt w (some ⟨g, 0, none⟩) c l) (hk : l[k]? = some x) (v : Int) :
    RowsAt (w.setCell ⟨g, k * 2 + 1, none⟩ (.int .i64 v)) (some ⟨g, 0, none⟩) c (l.set k (x.1, v)) := by
  obtain ⟨h1, _⟩ := World.ownsRow.stored h (k * 2 + 1) (.int .i64 v)
  rw [flat_set l k x v hk] at h1
  have e : (l.set k (x.1, v)).length = l.length := List.length_set
  unfold RowsAt
  rw [e]
  exact h1

set_option maxHeartbeats 1000000 in
theorem set_in (h : Rk w S r N nx st R) {k : Nat} {id v0 : Int} (hk : R[k]? = some (id, v0)) (v : Int) :
    Calls Try.prog 13 #[.pointer (some ⟨r, 0, none⟩), .int .i64 id, .int .i64 v] w fun e w' => e = .returned (.int .i64 0) ∧ Did S r N nx st (setR id v R) w w' := by
  have hkl := (List.getElem?_eq_some_iff.1 hk).1
  have HP := Lib.hid (place_in h hk)
  have H := Lib.hid h
  have HK := Lib.hid hk
  have HE : Hid (R.set k (id, v) = setR id v R) := set_eq h.sorted hk
  clear h hk
  generalize hn : R.length = n at *
  have HN := Lib.hid hn
  clear hn
  go_enter Try.func13, Try.ntmps13
  go_wp2_with fail
  refine HP.out.mono ?_
  rintro e w1 ⟨rfl, hb⟩
  obtain ⟨A, c, h1, h2, h3⟩ := (H.out.below hb).ex
  obtain ⟨g, rfl, hg, hc⟩ := RowsAt.cell h2 (by rw [HN.out]; omega)
  obtain ⟨d1, d2⟩ := hc k _ HK.out
  have hrow := RowsAt.set h2 HK.out v
  have hfz : w1.frozen? ⟨g, k * 2 + 1, none⟩ = false := World.ownsRow.frozenAt h2 _
  have hgr : g ≠ r := own_apart h2 rfl h1 (by decide)
  have hfin : Did S r N nx st (setR id v R) w (w1.setCell ⟨g, k * 2 + 1, none⟩ (.int .i64 v)) := by
    rw [← HE.out]
    refine ⟨⟨⟨some ⟨g, 0, none⟩, c, ?_, hrow, fun g' e => .inl (h3 g' e)⟩, .inl H.out.own, by rw [HE.out]; exact sorted_setR H.out.sorted, by rw [List.length_set]; exact H.out.len, H.out.size⟩,
      (Keep.of_below hb S).setCell (p := ⟨g, k * 2 + 1, none⟩) (.inr (h3 g rfl)) _⟩
    rw [List.length_set]
    exact h1.far (p := ⟨g, k * 2 + 1, none⟩) (Ne.symm hgr) _
  have HFIN := Lib.hid hfin
  have c2 := h1.cell 2
  rw [HN.out] at c2
  simp at c2
  have hsz := H.out.size
  have hlen := H.out.len
  rw [HN.out] at hlen
  clear h1 h2 h3 hc hb hfin hrow
  dsimp only at d1 d2
  go_wp2_with fail
  go_ret
  exact ⟨rfl, HFIN.out⟩

set_option maxHeartbeats 400000 in
theorem set_out (h : Rk w S r N nx st R) {id : Int} (hk : ¬ Has R id) (v : Int) :
    Calls Try.prog 13 #[.pointer (some ⟨r, 0, none⟩), .int .i64 id, .int .i64 v] w fun e w' => e = .returned (.int .i64 30) ∧ Below w.heap.size w w' := by
  have HP := Lib.hid (place_out h hk)
  clear h hk
  go_enter Try.func13, Try.ntmps13
  go_wp2_with (go_at_call 32; refine HP.out.mono ?_; rintro e w' ⟨rfl, hb⟩)
  go_ret
  exact ⟨rfl, hb⟩

theorem Did.from {w1 w' : World} {R' : List (Int × Int)} (h : Did S r N nx st R' w1 w') (hb : Below w.heap.size w w1) : Did S r N nx st R' w w' :=
  ⟨h.rk.mono (fun g e => by rcases e with e | e; exact .inl e; exact .inr (by have := hb.size; omega)), (Keep.of_below hb S).trans (h.keep.mono hb.size (fun _ _ e => e))⟩

set_option maxHeartbeats 1000000 in
theorem drop_in (h : Rk w S r N nx st R) {k : Nat} {id v : Int} (hk : R[k]? = some (id, v)) :
    Calls Try.prog 15 #[.pointer (some ⟨r, 0, none⟩), .int .i64 id] w fun e w' => e = .returned (.int .i64 0) ∧ Did S r N nx st (delR id R) w w' := by
  have HP := Lib.hid (place_in h hk)
  have H := Lib.hid h
  have HK := Lib.hid hk
  clear h hk
  go_enter Try.func15, Try.ntmps15
  go_wp2_with fail
  refine HP.out.mono ?_
  rintro e w1 ⟨rfl, hb⟩
  have HR := Lib.hid (remove_in (H.out.below hb) HK.out)
  have HB := Lib.hid hb
  clear hb
  go_wp2_with (go_at_call 33; refine HR.out.mono ?_; rintro e w' ⟨rfl, hd⟩)
  go_ret
  exact ⟨rfl, hd.from HB.out⟩

set_option maxHeartbeats 400000 in
theorem drop_out (h : Rk w S r N nx st R) {id : Int} (hk : ¬ Has R id) :
    Calls Try.prog 15 #[.pointer (some ⟨r, 0, none⟩), .int .i64 id] w fun e w' => e = .returned (.int .i64 30) ∧ Below w.heap.size w w' := by
  have HP := Lib.hid (place_out h hk)
  clear h hk
  go_enter Try.func15, Try.ntmps15
  go_wp2_with (go_at_call 32; refine HP.out.mono ?_; rintro e w' ⟨rfl, hb⟩)
  go_ret
  exact ⟨rfl, hb⟩

set_option maxHeartbeats 1000000 in
theorem hold_used (h : Rk w S r N nx st R) {id : Int} (hk : Has R id) (v : Int) :
    Calls Try.prog 11 #[.pointer (some ⟨r, 0, none⟩), .int .i64 id, .int .i64 v] w fun e w' => e = .returned (.int .i64 2) ∧ Below w.heap.size w w' := by
  obtain ⟨k, u, hk⟩ := has_get hk
  have HM := Lib.hid (made_yes h)
  have HF := Lib.hid (find_in h hk)
  clear h hk
  go_enter Try.func11, Try.ntmps11
  go_wp2_with (first
    | (go_at_call 26; refine HM.out.mono ?_; rintro e w' ⟨rfl, rfl⟩)
    | (go_at_call 31; refine HF.out.mono ?_; rintro e w' ⟨rfl, hb⟩))
  go_ret
  exact ⟨rfl, hb⟩

set_option maxHeartbeats 1000000 in
theorem hold_wrong (h : Rk w S r N nx st R) {id : Int} (hk : ¬ Has R id) (hi : id < 1 ∨ 1099511627775 < id) (v : Int) :
    Calls Try.prog 11 #[.pointer (some ⟨r, 0, none⟩), .int .i64 id, .int .i64 v] w fun e w' => e = .returned (.int .i64 2) ∧ Below w.heap.size w w' := by
  have HM := Lib.hid (made_yes h)
  have HF := Lib.hid (find_out h hk)
  have HW := fun w => Lib.hid (within_no id 1099511627775 w hi)
  clear h hk hi
  go_enter Try.func11, Try.ntmps11
  go_wp2_with (first
    | (go_at_call 26; refine HM.out.mono ?_; rintro e w' ⟨rfl, rfl⟩)
    | (go_at_call 31; refine HF.out.mono ?_; rintro e w' ⟨k, rfl, _, hb⟩)
    | (go_at_call 25; refine (HW _).out.mono ?_; rintro e w' ⟨rfl, rfl⟩))
  go_ret
  exact ⟨rfl, hb⟩

set_option maxHeartbeats 1000000 in
theorem hold_full (h : Rk w S r N nx st R) {id : Int} (hk : ¬ Has R id) (h1 : 1 ≤ id) (h2 : id ≤ 1099511627775) (hf : R.length = N) (v : Int) :
    Calls Try.prog 11 #[.pointer (some ⟨r, 0, none⟩), .int .i64 id, .int .i64 v] w fun e w' => e = .returned (.int .i64 4) ∧ Below w.heap.size w w' := by
  have HM := Lib.hid (made_yes h)
  have HF := Lib.hid (find_out h hk)
  have HW := fun w => Lib.hid (within_yes id 1099511627775 w h1 h2)
  have HU := fun w' (hb : Below w.heap.size w w') => Lib.hid (full_yes (h.below hb) hf)
  clear h hk h1 h2 hf
  go_enter Try.func11, Try.ntmps11
  go_wp2_with (first
    | (go_at_call 26; refine HM.out.mono ?_; rintro e w' ⟨rfl, rfl⟩)
    | (go_at_call 31; refine HF.out.mono ?_; rintro e w' ⟨k, rfl, _, hb⟩)
    | (go_at_call 25; refine (HW _).out.mono ?_; rintro e w' ⟨rfl, rfl⟩)
    | (go_at_call 27; refine (HU _ hb).out.mono ?_; rintro e w2 ⟨rfl, hst⟩))
  go_ret
  exact ⟨rfl, hb.trans (hst.below _)⟩

set_option maxHeartbeats 1000000 in
theorem hold_ok (h : Rk w S r N nx st R) {id : Int} (hk : ¬ Has R id) (h1 : 1 ≤ id) (h2 : id ≤ 1099511627775) (hf : R.length < N) (v : Int) :
    Calls Try.prog 11 #[.pointer (some ⟨r, 0, none⟩), .int .i64 id, .int .i64 v] w fun e w' => e = .returned (.int .i64 0) ∧ Did S r N nx st (insR (id, v) R) w w' := by
  have HM := Lib.hid (made_yes h)
  have HF := Lib.hid (find_out h hk)
  have HW := fun w => Lib.hid (within_yes id 1099511627775 w h1 h2)
  have HU := fun w' (hb : Below w.heap.size w w') => Lib.hid (full_no (h.below hb) hf)
  have HA := fun w' (hb : Below w.heap.size w w') => Lib.hid (add_out (h.below hb) hk hf v)
  clear h hk h1 h2 hf
  go_enter Try.func11, Try.ntmps11
  go_wp2_with (first
    | (go_at_call 26; refine HM.out.mono ?_; rintro e w' ⟨rfl, rfl⟩)
    | (go_at_call 31; refine HF.out.mono ?_; rintro e w' ⟨k, rfl, _, hb⟩)
    | (go_at_call 25; refine (HW _).out.mono ?_; rintro e w' ⟨rfl, rfl⟩)
    | (go_at_call 27; refine (HU _ hb).out.mono ?_; rintro e w2 ⟨rfl, hst⟩; have hb2 := hb.trans (hst.below _); clear hst hb)
    | (go_at_call 29; refine (HA _ hb2).out.mono ?_; rintro e w2 ⟨rfl, hd⟩))
  go_ret
  exact ⟨rfl, hd.from hb2⟩
end

set_option maxHeartbeats 1000000 in
theorem new_no (size first step : Int) (w : World) (h : (size < 1 ∨ 64 < size) ∨ (first < 1 ∨ 1000 < first) ∨ (step < 1 ∨ 1000 < step)) :
    Calls Try.prog 7 #[.int .i64 size, .int .i64 first, .int .i64 step] w fun e w' => e = .returned (.tuple #[.pointer none, .int .i64 2]) ∧ w = w' := by
  by_cases h1 : size < 1 ∨ 64 < size
  · clear h
    go_enter Try.func7, Try.ntmps7
    go_wp2_with (go_at_call 25; refine (within_no _ _ _ h1).mono ?_; rintro e w' ⟨rfl, rfl⟩)
    go_ret2
    exact ⟨rfl, rfl⟩
  · have a1 : 1 ≤ size := by omega
    have a2 : size ≤ 64 := by omega
    have h' : (first < 1 ∨ 1000 < first) ∨ (step < 1 ∨ 1000 < step) := by omega
    clear h h1
    by_cases h2 : first < 1 ∨ 1000 < first
    · clear h'
      have t1 : True := trivial
      go_enter Try.func7, Try.ntmps7
      go_wp2_with (first
        | (go_at_call 25; clear t1; refine (within_yes _ _ _ a1 a2).mono ?_; rintro e w' ⟨rfl, rfl⟩)
        | (go_at_call 25; refine (within_no _ _ _ h2).mono ?_; rintro e w' ⟨rfl, rfl⟩))
      go_ret2
      exact ⟨rfl, rfl⟩
    · have b1 : 1 ≤ first := by omega
      have b2 : first ≤ 1000 := by omega
      have h3 : step < 1 ∨ 1000 < step := by omega
      clear h' h2
      have t1 : True := trivial
      have t2 : True := trivial
      go_enter Try.func7, Try.ntmps7
      go_wp2_with (first
        | (go_at_call 25; clear t1; refine (within_yes _ _ _ a1 a2).mono ?_; rintro e w' ⟨rfl, rfl⟩)
        | (go_at_call 25; clear t2; refine (within_yes _ _ _ b1 b2).mono ?_; rintro e w' ⟨rfl, rfl⟩)
        | (go_at_call 25; refine (within_no _ _ _ h3).mono ?_; rintro e w' ⟨rfl, rfl⟩))
      go_ret2
      exact ⟨rfl, rfl⟩

/-- what New leaves -/
structure News (w : World) (r N : Nat) (first step : Int) (w' : World) : Prop where
  rk : Rk w' (fun g => w.heap.size ≤ g) r N first step []
  below : Below w.heap.size w w'

set_option maxHeartbeats 1000000 in
theorem new_ok (N : Nat) (first step : Int) (w : World) (a1 : 1 ≤ (N : Int)) (a2 : (N : Int) ≤ 64) (b1 : 1 ≤ first) (b2 : first ≤ 1000) (c1 : 1 ≤ step) (c2 : step ≤ 1000) :
    Calls Try.prog 7 #[.int .i64 (N : Int), .int .i64 first, .int .i64 step] w fun e w' => e = .returned (.tuple #[.pointer (some ⟨w.heap.size, 0, none⟩), .int .i64 0]) ∧ News w w.heap.size N first step w' := by
  have t1 : True := trivial
  have t2 : True := trivial
  go_enter Try.func7, Try.ntmps7
  go_wp2_with (first
    | (go_at_call 25; clear t1; refine (within_yes _ _ _ a1 a2).mono ?_; rintro e w' ⟨rfl, rfl⟩)
    | (go_at_call 25; clear t2; refine (within_yes _ _ _ b1 b2).mono ?_; rintro e w' ⟨rfl, rfl⟩)
    | (go_at_call 25; refine (within_yes _ _ _ c1 c2).mono ?_; rintro e w' ⟨rfl, rfl⟩))
  go_ret2
  refine ⟨rfl, ⟨⟨none, 0, ?_, World.ownsRow_nil _ _ _ _, fun g e => by cases e⟩, Nat.le_refl _, List.Pairwise.nil, Nat.zero_le _, by omega⟩, ?_⟩
  · exact Lies.new w 52 _
  · exact (Below.refl _ w).alloc (Nat.le_refl _) _

end Go.Proofs.Ytcecdcdnjbndiaa.rack
