/-
  Given for the seat's laws: the contracts of Add, Drop, Every over a plan that New made, and over one that nobody made. No condition but those of the theorems.
-/
import Derived.Test.YtpidjekabnnmcaaQFind
namespace Go.Proofs.Ytpidjekabnnmcaa.pl
open Go.RowKit mem find pb
set_option linter.unusedVariables false

section
variable {w : World} {S : Nat → Prop} {r : Nat} {ev : Int} {R : List (Int × Int)}

/-- find, where the key is there -/
theorem find_yes (h : Pn w S r ev R) {key : Int} (hk : idx key R < R.length) :
    Calls Try.prog 65 #[.pointer (some ⟨r, 0, none⟩), .int .i64 key] w fun e w' => e = .returned (.tuple #[.int .i64 (idx key R : Int), .bool true]) ∧ Below w.heap.size w w' := by
  refine (find_any h key).mono ?_
  rintro e w' ⟨k, u, rfl, h1, h2, hb⟩
  cases u with
  | false => exact absurd hk (h2 rfl).1
  | true => obtain ⟨rfl, _⟩ := h1 rfl; exact ⟨rfl, hb⟩
theorem find_not (h : Pn w S r ev R) {key : Int} (hk : ¬ idx key R < R.length) :
    Calls Try.prog 65 #[.pointer (some ⟨r, 0, none⟩), .int .i64 key] w fun e w' => e = .returned (.tuple #[.int .i64 (pos key R : Int), .bool false]) ∧ Below w.heap.size w w' := by
  refine (find_any h key).mono ?_
  rintro e w' ⟨k, u, rfl, h1, h2, hb⟩
  cases u with
  | false => obtain ⟨_, rfl⟩ := h2 rfl; exact ⟨rfl, hb⟩
  | true => obtain ⟨rfl, hl⟩ := h1 rfl; exact absurd hl hk

theorem did_rows {w' : World} {n c c' : Nat} {A A' : Option Addr} {R' : List (Int × Int)} (h : Pn w S r ev R) (hl : Lies w' r 94 (headCs r ev A n c)) (hrow : RowsAt w' A' c' R') (hk : Keep w.heap.size S w w') (hA : ∀ g, rowOf A' = some g → S g ∨ w.heap.size ≤ g)
    (hs : Asc R') (hlen : R'.length ≤ 64) : Did S r ev R' w (w'.setCell ⟨r, 2, none⟩ (.slice A' R'.length c')) := by
  refine ⟨⟨⟨A', c', hl.set 2 _, RowsAt.of_same hrow (fun g e => ?_), hA⟩, .inl h.own, hs, hlen, h.lo, h.hi⟩, hk.setCell (p := ⟨r, 2, none⟩) (.inr h.own) _⟩
  rw [rowOf_eq] at e
  exact Below.heap_setCell _ _ _ _ (own_apart hrow e hl (by decide))

set_option maxHeartbeats 400000 in
theorem add_has (h : Pn w S r ev R) {key : Int} (hk : idx key R < R.length) : Calls Try.prog 64 #[.pointer (some ⟨r, 0, none⟩), .int .i64 key] w fun e w' => e = .returned (.int .i64 2) ∧ Below w.heap.size w w' := by
  have HM := Lib.hid (made_yes h)
  have HF := Lib.hid (find_yes h hk)
  clear h hk
  go_enter Try.func64, Try.ntmps64
  go_wp2_with (first
    | (go_at_call 44; refine HM.out.mono ?_; rintro e w' ⟨rfl, rfl⟩)
    | (go_at_call 65; refine HF.out.mono ?_; rintro e w' ⟨rfl, hb⟩))
  go_ret
  exact ⟨rfl, hb⟩

set_option maxHeartbeats 400000 in
theorem add_wrong (h : Pn w S r ev R) {key : Int} (hk : ¬ idx key R < R.length) (hi : key < 1 ∨ 1099511627775 < key) : Calls Try.prog 64 #[.pointer (some ⟨r, 0, none⟩), .int .i64 key] w fun e w' => e = .returned (.int .i64 2) ∧ Below w.heap.size w w' := by
  have HM := Lib.hid (made_yes h)
  have HF := Lib.hid (find_not h hk)
  have HI := Lib.hid hi
  clear h hk hi
  go_enter Try.func64, Try.ntmps64
  go_wp2_with (first
    | (go_at_call 44; refine HM.out.mono ?_; rintro e w' ⟨rfl, rfl⟩)
    | (go_at_call 65; refine HF.out.mono ?_; rintro e w' ⟨rfl, hb⟩)
    | (go_at_call 73; refine (key_no _ _ HI.out).mono ?_; rintro e w' ⟨rfl, rfl⟩))
  go_ret
  exact ⟨rfl, hb⟩

set_option maxHeartbeats 400000 in
theorem add_full (h : Pn w S r ev R) {key : Int} (hk : ¬ idx key R < R.length) (h1 : 1 ≤ key) (h2 : key ≤ 1099511627775) (hf : R.length = 64) : Calls Try.prog 64 #[.pointer (some ⟨r, 0, none⟩), .int .i64 key] w fun e w' => e = .returned (.int .i64 4) ∧ Below w.heap.size w w' := by
  have HM := Lib.hid (made_yes h)
  have HF := Lib.hid (find_not h hk)
  obtain ⟨A, c, hl, _⟩ := h.ex
  rw [hf] at hl
  have HL := Lib.hid hl
  clear h hk hl hf
  go_enter Try.func64, Try.ntmps64
  go_wp2_with (first
    | (go_at_call 44; refine HM.out.mono ?_; rintro e w' ⟨rfl, rfl⟩)
    | (go_at_call 65; refine HF.out.mono ?_; rintro e w' ⟨rfl, hb⟩; have c2 := (HL.out.below hb HL.out.lt).cell 2; simp at c2)
    | (go_at_call 73; refine (key_yes _ _ h1 h2).mono ?_; rintro e w' ⟨rfl, rfl⟩))
  go_ret
  exact ⟨rfl, hb⟩

set_option maxRecDepth 100000 in
set_option maxHeartbeats 1000000 in
theorem add_ok (h : Pn w S r ev R) {key : Int} (hk : ¬ idx key R < R.length) (h1 : 1 ≤ key) (h2 : key ≤ 1099511627775) (hf : R.length < 64) :
    Calls Try.prog 64 #[.pointer (some ⟨r, 0, none⟩), .int .i64 key] w fun e w' => e = .returned (.int .i64 0) ∧ Did S r ev (pb.ins key R) w w' := by
  have HM := Lib.hid (made_yes h)
  have HF := Lib.hid (find_not h hk)
  have H := Lib.hid h
  have HK := Lib.hid hk
  have HL := Lib.hid hf
  have HPL := Lib.hid (pos_le key R)
  clear h hk hf
  go_enter Try.func64, Try.ntmps64
  go_wp2_with (go_at_call 44; refine HM.out.mono ?_; rintro e w' ⟨rfl, rfl⟩)
  refine HF.out.mono ?_
  rintro e w1 ⟨rfl, hb⟩
  have HKY := Lib.hid (key_yes key w1 h1 h2)
  obtain ⟨A, c, q1, q2, q3⟩ := (H.out.below hb).ex
  have HH := Lib.hid q1
  have c2 := q1.cell 2
  simp at c2
  have hbox := Lies.new w1 103 #[.int .i64 key, .int .i64 0]
  have hR2 : RowsAt (w1.alloc (.cells #[.int .i64 key, .int .i64 0] 103)) A c R := RowsAt.keep q2 (Keep.of_below ((Below.refl _ w1).alloc (Nat.le_refl _) _) (fun _ => False)) (Nat.le_refl _) (fun _ _ hf => hf)
  have HI := Lib.hid (insert_any hR2 (by have := HL.out; omega) (pos key R) HPL.out w1.heap.size (key, 0) hbox (fun e => by have := own_lt q2 e; omega))
  have HB := Lib.hid hb
  have H3 := Lib.hid q3
  have hl1 : Lies (w1.alloc (.cells #[.int .i64 key, .int .i64 0] 103)) r 94 (headCs r ev A R.length c) := q1.alloc _
  have HL1 := Lib.hid hl1
  have HR2 := Lib.hid hR2
  clear q1 q3 hb hR2 hbox hl1 q2
  generalize hpp : pos key R = p at *
  have HPP := Lib.hid hpp
  clear hpp
  generalize hn : R.length = n at *
  have HN := Lib.hid hn
  have hl64 := HL.out
  have hp64 : p ≤ n := HPL.out
  clear hn
  go_wp2_with (go_at_call 73; refine HKY.out.mono ?_; rintro e w' ⟨rfl, rfl⟩)
  refine HI.out.mono ?_
  rintro e w2 ⟨A', c', rfl, hrow, hgr, hA'⟩
  have hl2 : Lies w2 r 94 (headCs r ev A n c) := HL1.out.grown hgr (fun e => by
    have := own_apart HR2.out e.symm HL1.out (by decide)
    exact this rfl)
  have hins : find.ins R p (key, 0) = pb.ins key R := by rw [← HPP.out]; rfl
  have hfin : Did S r ev (pb.ins key R) w (w2.setCell ⟨r, 2, none⟩ (.slice A' (find.ins R p (key, 0)).length c')) := by
    rw [hins] at hrow ⊢
    have hsz := HB.out.size
    have hsz2 : (w1.alloc (.cells #[.int .i64 key, .int .i64 0] 103)).heap.size = w1.heap.size + 1 := by simp
    refine did_rows H.out hl2 hrow ?_ ?_ (asc_ins H.out.asc (by rw [HN.out]; exact HK.out)) (by rw [ins_len, HN.out]; exact HL.out)
    · have kb : Keep w.heap.size S w (w1.alloc (.cells #[.int .i64 key, .int .i64 0] 103)) := (Keep.of_below HB.out S).alloc (by omega) _
      exact kb.grown hgr (by omega) (fun g e => .inr (H3.out g e))
    · intro g e
      rcases hA' g e with h | h
      · exact .inl (H3.out g h)
      · exact .inr (by omega)
  have HFIN := Lib.hid hfin
  have f2 := hl2.frozen 2
  have g2 := hl2.cell 2
  simp at g2
  clear hfin hrow hgr hA' hl2 HI hins
  generalize (find.ins R p (key, 0)).length = n' at *
  go_wp2_with fail
  go_ret
  exact ⟨rfl, HFIN.out⟩

set_option maxHeartbeats 400000 in
theorem drop_none (h : Pn w S r ev R) {key : Int} (hk : ¬ idx key R < R.length) : Calls Try.prog 50 #[.pointer (some ⟨r, 0, none⟩), .int .i64 key] w fun e w' => e = .returned (.int .i64 30) ∧ Below w.heap.size w w' := by
  have HM := Lib.hid (made_yes h)
  have HF := Lib.hid (find_not h hk)
  clear h hk
  go_enter Try.func50, Try.ntmps50
  go_wp2_with (first
    | (go_at_call 44; refine HM.out.mono ?_; rintro e w' ⟨rfl, rfl⟩)
    | (go_at_call 65; refine HF.out.mono ?_; rintro e w' ⟨rfl, hb⟩))
  go_ret
  exact ⟨rfl, hb⟩

set_option maxRecDepth 100000 in
set_option maxHeartbeats 1000000 in
theorem drop_ok (h : Pn w S r ev R) {key : Int} (hk : idx key R < R.length) :
    Calls Try.prog 50 #[.pointer (some ⟨r, 0, none⟩), .int .i64 key] w fun e w' => e = .returned (.int .i64 0) ∧ Did S r ev (pb.del key R) w w' := by
  have HM := Lib.hid (made_yes h)
  have HF := Lib.hid (find_yes h hk)
  have H := Lib.hid h
  have HK := Lib.hid hk
  have HLE := Lib.hid h.len
  clear h hk
  go_enter Try.func50, Try.ntmps50
  go_wp2_with (go_at_call 44; refine HM.out.mono ?_; rintro e w' ⟨rfl, rfl⟩)
  refine HF.out.mono ?_
  rintro e w1 ⟨rfl, hb⟩
  obtain ⟨A, c, q1, q2, q3⟩ := (H.out.below hb).ex
  have c2 := q1.cell 2
  simp at c2
  have HD := Lib.hid (delete_any q2 (by have := HLE.out; omega) (idx key R) HK.out)
  have HLI := Lib.hid q1
  have HRW := Lib.hid q2
  have H3 := Lib.hid q3
  have HB := Lib.hid hb
  clear q1 q2 q3 hb
  generalize hpp : idx key R = p at *
  have HPP := Lib.hid hpp
  clear hpp
  generalize hn : R.length = n at *
  have HN := Lib.hid hn
  have hl64 := HLE.out
  have hp64 : p < n := HK.out
  clear hn
  have hw : IntKind.i64.wrap ((p : Int) + 1) = (p : Int) + 1 := IntWalk.i64_in _ (by omega)
  go_wp2_with fail
  refine HD.out.mono ?_
  rintro e w2 ⟨rfl, hrow, hgr⟩
  have hl2 : Lies w2 r 94 (headCs r ev A n c) := HLI.out.grown hgr (fun e => by
    have := own_apart HRW.out e.symm HLI.out (by decide)
    exact this rfl)
  have hdel : find.del R p = pb.del key R := by rw [← HPP.out]; rfl
  have hdl : (pb.del key R).length = n - 1 := by have := del_len (k := key) (l := R) (by rw [HPP.out, HN.out]; exact hp64); rw [HN.out] at this; omega
  have hfin : Did S r ev (pb.del key R) w (w2.setCell ⟨r, 2, none⟩ (.slice A (n - 1) c)) := by
    rw [hdel] at hrow
    rw [← hdl]
    refine did_rows H.out hl2 hrow ?_ (fun g e => .inl (H3.out g e)) (asc_del H.out.asc) (by rw [hdl]; omega)
    exact (Keep.of_below HB.out S).grown hgr HB.out.size (fun g e => .inr (H3.out g e))
  have HFIN := Lib.hid hfin
  have f2 := hl2.frozen 2
  have g2 := hl2.cell 2
  simp at g2
  rw [HN.out]
  clear hfin hrow hgr hl2 HD hdel hdl
  generalize n - 1 = n' at *
  go_wp2_with fail
  go_ret
  exact ⟨rfl, HFIN.out⟩

set_option maxHeartbeats 400000 in
theorem every_no (h : Pn w S r ev R) {n : Int} (hi : n < 1 ∨ 1000 < n) : Calls Try.prog 28 #[.pointer (some ⟨r, 0, none⟩), .int .i64 n] w fun e w' => e = .returned (.int .i64 2) ∧ w = w' := by
  have HM := Lib.hid (made_yes h)
  have HI := Lib.hid (period_no n w hi)
  clear h hi
  go_enter Try.func28, Try.ntmps28
  go_wp2_with (first
    | (go_at_call 44; refine HM.out.mono ?_; rintro e w' ⟨rfl, rfl⟩)
    | (go_at_call 45; refine HI.out.mono ?_; rintro e w' ⟨rfl, rfl⟩))
  go_ret
  exact ⟨rfl, rfl⟩

set_option maxHeartbeats 400000 in
theorem every_ok (h : Pn w S r ev R) {n : Int} (h1 : 1 ≤ n) (h2 : n ≤ 1000) : Calls Try.prog 28 #[.pointer (some ⟨r, 0, none⟩), .int .i64 n] w fun e w' => e = .returned (.int .i64 0) ∧ Did S r n R w w' := by
  have HM := Lib.hid (made_yes h)
  have HI := Lib.hid (period_yes n w h1 h2)
  obtain ⟨A, c, q1, q2, q3⟩ := h.ex
  have f1 := q1.frozen 1
  have c1 := q1.cell 1
  simp at c1
  have hfin : Did S r n R w (w.setCell ⟨r, 1, none⟩ (.int .i64 n)) := by
    refine ⟨⟨⟨A, c, q1.set 1 _, RowsAt.of_same q2 (fun g e => ?_), fun g e => .inl (q3 g e)⟩, .inl h.own, h.asc, h.len, h1, h2⟩, (Keep.refl _ S w).setCell (p := ⟨r, 1, none⟩) (.inr h.own) _⟩
    rw [rowOf_eq] at e
    exact Below.heap_setCell _ _ _ _ (own_apart q2 e q1 (by decide))
  have HFIN := Lib.hid hfin
  clear h q1 q2 q3 hfin
  go_enter Try.func28, Try.ntmps28
  go_wp2_with (first
    | (go_at_call 44; refine HM.out.mono ?_; rintro e w' ⟨rfl, rfl⟩)
    | (go_at_call 45; refine HI.out.mono ?_; rintro e w' ⟨rfl, rfl⟩))
  go_ret
  exact ⟨rfl, HFIN.out⟩
end

/-! ### where nobody made the plan -/
/-- a pointer to a plan that nobody made: nil, or a block whose first cell is nil -/
def NotMade (w : World) (p : Option Addr) : Prop := p = none ∨ ∃ b, p = some ⟨b, 0, none⟩ ∧ b < w.heap.size ∧ w.cell? ⟨b, 0, none⟩ = some (.pointer none)
theorem NotMade.below {w w' : World} {p : Option Addr} (h : NotMade w p) (hb : Below w.heap.size w w') : NotMade w' p := by
  rcases h with h | ⟨b, h1, h2, h3⟩
  · exact .inl h
  · exact .inr ⟨b, h1, Nat.lt_of_lt_of_le h2 hb.size, (hb.cell (p := ⟨b, 0, none⟩) h2).trans h3⟩
theorem made_no {w : World} {p : Option Addr} (h : NotMade w p) : Calls Try.prog 44 #[.pointer p] w fun e w' => e = .returned (.bool false) ∧ w = w' := by
  rcases h with rfl | ⟨b, rfl, _, hc⟩
  · exact made_nil w
  · exact made_not hc

set_option maxHeartbeats 400000 in
theorem add_nil {w : World} {p : Option Addr} (h : NotMade w p) (key : Int) : Calls Try.prog 64 #[.pointer p, .int .i64 key] w fun e w' => e = .returned (.int .i64 1) ∧ w = w' := by
  have HM := Lib.hid (made_no h)
  clear h
  go_enter Try.func64, Try.ntmps64
  go_wp2_with (go_at_call 44; refine HM.out.mono ?_; rintro e w' ⟨rfl, rfl⟩)
  go_ret
  exact ⟨rfl, rfl⟩
set_option maxHeartbeats 400000 in
theorem drop_nil {w : World} {p : Option Addr} (h : NotMade w p) (key : Int) : Calls Try.prog 50 #[.pointer p, .int .i64 key] w fun e w' => e = .returned (.int .i64 1) ∧ w = w' := by
  have HM := Lib.hid (made_no h)
  clear h
  go_enter Try.func50, Try.ntmps50
  go_wp2_with (go_at_call 44; refine HM.out.mono ?_; rintro e w' ⟨rfl, rfl⟩)
  go_ret
  exact ⟨rfl, rfl⟩
set_option maxHeartbeats 400000 in
theorem every_nil {w : World} {p : Option Addr} (h : NotMade w p) (n : Int) : Calls Try.prog 28 #[.pointer p, .int .i64 n] w fun e w' => e = .returned (.int .i64 1) ∧ w = w' := by
  have HM := Lib.hid (made_no h)
  clear h
  go_enter Try.func28, Try.ntmps28
  go_wp2_with (go_at_call 44; refine HM.out.mono ?_; rintro e w' ⟨rfl, rfl⟩)
  go_ret
  exact ⟨rfl, rfl⟩
set_option maxHeartbeats 400000 in
theorem round_nil {w : World} {p : Option Addr} (h : NotMade w p) (now : Int) (A : Option Addr) (n c : Nat) : Calls Try.prog 30 #[.pointer p, .int .i64 now, .slice A n c] w fun e w' => e = .returned (.slice none 0 0) ∧ Below w.heap.size w w' := by
  have b4 : Below w.heap.size w (((w.alloc (.cells #[.pointer p] 33)).alloc (.cells #[.int .i64 now] 3)).alloc (.cells #[.slice A n c] 47)) :=
    (((Below.refl _ w).alloc (Nat.le_refl _) _).alloc (by simp) _).alloc (by simp; omega) _
  have HM := Lib.hid (made_no (h.below b4))
  have HB := Lib.hid b4
  clear h b4
  go_enter Try.func30, Try.ntmps30
  go_wp2_with fail
  go_step3
  go_wp2_with (go_at_call 44; refine HM.out.mono ?_; rintro e w' ⟨rfl, rfl⟩)
  try rw [Exit.noGoto_ret]
  go_ret
  exact ⟨rfl, HB.out⟩
end Go.Proofs.Ytpidjekabnnmcaa.pl
