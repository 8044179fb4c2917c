/-
  Given for the seat's laws: what one act makes of a breaker that may be, case by case; plain. No condition but those of the theorems.
-/
import Derived.Test.YtcnlcjlipbpjoaaBLaw
namespace Go.Proofs.Ytcnlcjlipbpjoaa.bk
open Go.RowKit mem
set_option linter.unusedVariables false

theorem may_mk {n s : Int} (t : Bool) (hn : tk n = true) (h1 : 1 ≤ s) (h2 : s ≤ 8000) : may ⟨true, n, s, t⟩ = true := by
  unfold may
  rw [hn]
  simp [h1, h2]
theorem st_mk {n s : Int} (t : Bool) (hn : tk n = true) (h1 : 1 ≤ s) (h2 : s ≤ 8000) (m : Int) : st ⟨true, n, s, t⟩ m = if m < n + s then 1 else 2 := st_op (op_cl rfl) (may_mk t hn h1 h2) m
theorem lets_one {b : Bk} {n : Int} (h : st b n = 1) : lets b n = false := by unfold lets; rw [h]; rfl
theorem lets_ne {b : Bk} {n : Int} (h : st b n ≠ 1) : lets b n = !b.tr := by unfold lets; simp [h]
theorem may_tail {o : Bool} {s p : Int} {t : Bool} (u : Bool) (ho : o = true) (h : may ⟨o, s, p, t⟩ = true) : may ⟨o, s, p, u⟩ = true := by
  subst ho
  have hc := op_cl (b := ⟨true, s, p, t⟩) rfl
  obtain ⟨_, h1, h2, h3, h4⟩ := may_op hc h
  exact may_mk u (tk_ok h1 h2) h3 h4
theorem tr_op {b : Bk} (hm : may b = true) (h : b.tr = true) : b.op = true := by
  cases e : cl b with
  | true => unfold cl at e; rw [of_decide_eq_true e] at h; cases h
  | false => exact (may_op e hm).1
theorem cl_tr {b : Bk} (h : cl b = true) : b.tr = false ∧ b.op = false := by unfold cl at h; rw [of_decide_eq_true h]; exact ⟨rfl, rfl⟩
theorem st_zero {b : Bk} {n : Int} (h : st b n = 0) : cl b = true := by
  cases e : cl b with
  | true => rfl
  | false =>
    unfold st at h
    rw [e] at h
    simp at h
    split at h <;> cases h

/-- a try -/
theorem try_case {b : Bk} {n : Int} (hm : may b = true) (hn : tk n = true) :
    (lets b n = false ∧ tv b n = .tuple #[bv b, .bool false, .int .i64 2]) ∨ (lets b n = true ∧ b.tr = false ∧ st b n = 0 ∧ tv b n = .tuple #[bv b, .bool false, .int .i64 0]) ∨
      (lets b n = true ∧ b.tr = false ∧ st b n = 2 ∧ tv b n = .tuple #[bv ⟨b.op, b.si, b.sp, true⟩, .bool true, .int .i64 0] ∧ may ⟨b.op, b.si, b.sp, true⟩ = true) := by
  cases hl : lets b n with
  | false => exact .inl ⟨rfl, tv_err (.inr hl)⟩
  | true =>
    have h1 := lets_st hl
    have ht : b.tr = false := by
      rw [lets_ne h1] at hl
      simpa using hl
    rcases st_012 b n with ⟨h, _⟩ | h | h
    · exact .inr (.inl ⟨rfl, ht, h, tv_cl hn hl h ht⟩)
    · exact absurd h h1
    · refine .inr (.inr ⟨rfl, ht, h, tv_half hn hl h, ?_⟩)
      have hc : cl b = false := by
        cases e : cl b with
        | false => rfl
        | true => rw [st_cl e] at h; cases h
      exact may_tail (t := b.tr) true (may_op hc hm).1 hm
/-- a good outcome of a trial -/
theorem good_case {b : Bk} (hm : may b = true) : (b.tr = true ∧ goodb b true = zb) ∨ (b.tr = false ∧ goodb b true = b) := by
  cases h : b.tr with
  | true => exact .inl ⟨rfl, by unfold goodb ends; rw [h, hm]; rfl⟩
  | false => exact .inr ⟨rfl, by unfold goodb ends; rw [h]; rfl⟩
theorem good_false (b : Bk) : goodb b false = b := rfl
/-- a trial given back -/
theorem back_case {b : Bk} (hm : may b = true) : backb b true = ⟨b.op, b.si, b.sp, false⟩ ∧ may ⟨b.op, b.si, b.sp, false⟩ = true := by
  cases h : b.tr with
  | true => exact ⟨by unfold backb ends; rw [h, hm]; rfl, may_tail (t := b.tr) false (tr_op hm h) hm⟩
  | false =>
    obtain ⟨o, s, p, t⟩ := b
    cases h
    exact ⟨rfl, hm⟩
/-- a bad outcome of a trial -/
theorem badt_case {b : Bk} {n c : Int} (u : Bool) (hm : may b = true) (hn : tk n = true) (hc : ck c = true) :
    (b.tr = true ∧ ∃ x : Bk, bw b n c true u = .tuple #[bv x, .int .i64 0] ∧ st x n = 1 ∧ lets x n = false ∧ x.tr = false ∧ may x = true) ∨ (b.tr = false ∧ bw b n c true u = .tuple #[bv b, .int .i64 0]) := by
  cases h : b.tr with
  | true =>
    obtain ⟨h1, h2⟩ := may_tr hm h
    obtain ⟨h3, h4⟩ := ck_t.1 hc
    have hs : st ⟨true, n, min (2 * b.sp) (8 * c), false⟩ n = 1 := by rw [st_mk false hn (by omega) (by omega), if_pos (by omega)]
    exact .inl ⟨rfl, _, bw_end u hm hn hc h rfl, hs, lets_one hs, rfl, may_mk false hn (by omega) (by omega)⟩
  | false => exact .inr ⟨rfl, bw_same true u hm hn hc (.inl ⟨rfl, h⟩)⟩
/-- another bad outcome -/
theorem badf_case {b : Bk} {n c : Int} (u : Bool) (hm : may b = true) (hn : tk n = true) (hc : ck c = true) :
    (st b n = 0 ∧ u = true ∧ b.tr = false ∧ ∃ x : Bk, bw b n c false u = .tuple #[bv x, .int .i64 0] ∧ st x n = 1 ∧ x.tr = false ∧ may x = true) ∨ (st b n = 0 ∧ u = false ∧ bw b n c false u = .tuple #[bv b, .int .i64 0]) ∨ (st b n = 1 ∧ bw b n c false u = .tuple #[bv b, .int .i64 0]) ∨ (st b n = 2 ∧ bw b n c false u = .tuple #[bv b, .int .i64 0]) := by
  by_cases h0 : st b n = 0
  · have hcl := st_zero h0
    cases u with
    | true =>
      obtain ⟨h3, h4⟩ := ck_t.1 hc
      have hs : st ⟨true, n, c, false⟩ n = 1 := by rw [st_mk false hn (by omega) (by omega), if_pos (by omega)]
      exact .inl ⟨h0, rfl, (cl_tr hcl).1, _, bw_trip hm hn hc (cl_tr hcl).2 rfl rfl, hs, rfl, may_mk false hn (by omega) (by omega)⟩
    | false => exact .inr (.inl ⟨h0, rfl, bw_same false false hm hn hc (.inr ⟨rfl, .inr rfl⟩)⟩)
  · have hcl : cl b = false := by
      cases e : cl b with
      | false => rfl
      | true => exact absurd (st_cl e n) h0
    have hb := bw_same false u hm hn hc (.inr ⟨rfl, .inl (may_op hcl hm).1⟩)
    rcases st_012 b n with ⟨h, _⟩ | h | h
    · exact absurd h h0
    · exact .inr (.inr (.inl ⟨h, hb⟩))
    · exact .inr (.inr (.inr ⟨h, hb⟩))
/-- what is asked in the end -/
theorem tail_case {b : Bk} (n : Int) : (st b n = 0 ∧ lets b n = true) ∨ (st b n = 1 ∧ lets b n = false) ∨ (st b n = 2 ∧ lets b n = !b.tr) := by
  rcases st_012 b n with ⟨h, h2⟩ | h | h
  · exact .inl ⟨h, by rw [lets_ne (by rw [h]; decide), h2]; rfl⟩
  · exact .inr (.inl ⟨h, lets_one h⟩)
  · exact .inr (.inr ⟨h, lets_ne (by rw [h]; decide)⟩)

/-- a breaker in play: it lies in block g, it may be, and nothing that was there has turned -/
structure Pl (w : World) (g : Nat) (b : Bk) (wx : World) : Prop where
  ly : Lays wx g b
  gr : Grew w wx
  my : may b = true
theorem Pl.grew {w wx wy : World} {g : Nat} {b : Bk} (h : Pl w g b wx) (k : Grew wx wy) : Pl w g b wy := ⟨h.ly.grew k, h.gr.trans k, h.my⟩
theorem Pl.set {w wx : World} {g : Nat} {b b' : Bk} (h : Pl w g b wx) (hg : w.heap.size ≤ g) (hm : may b' = true) : Pl w g b' (put wx g b') := ⟨h.ly.put b', h.gr.put hg b', hm⟩
theorem Pl.new {w wx : World} {g : Nat} {b : Bk} (h : Pl w g b wx) (o : Obj) : Pl w g b (wx.alloc o) := h.grew (grew_box wx o)
end Go.Proofs.Ytcnlcjlipbpjoaa.bk
