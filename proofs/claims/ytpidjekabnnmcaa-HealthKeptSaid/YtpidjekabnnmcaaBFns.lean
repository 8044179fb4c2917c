/-
  Given for the seat's laws: the contracts of the project's May, State, Lets. No condition but those of the theorems.
-/
import Derived.Test.YtpidjekabnnmcaaBMem
namespace Go.Proofs.Ytpidjekabnnmcaa.bk
open Go.RowKit mem
set_option linter.unusedVariables false

set_option maxHeartbeats 1000000 in
theorem may_any (b : Bk) (w : World) : Calls Try.prog 41 #[bv b] w (Gv (.bool (may b)) w) := by
  have HC := Bx.mk (closed_any b)
  have HT := Bx.mk (isTick_any b.si)
  unfold Gv at *
  have HM : Bx (may b = (cl b || (b.op && tk b.si && decide (1 ≤ b.sp) && decide (b.sp ≤ 8000)))) := ⟨rfl⟩
  have HL := Bx.mk (lays_box w b)
  generalize cl b = c at *
  generalize tk b.si = k at *
  generalize may b = m at *
  obtain ⟨o, s, p, t⟩ := b
  go_enter Try.func41, Try.ntmps41
  go_wp2_with fail
  refine (HC.out _).mono ?_
  rintro e w2 ⟨rfl, hg⟩
  obtain ⟨c0, c1, c2, c3, f0⟩ := HL.out.grew hg
  have G := Bx.mk ((grew_box _ _).trans hg)
  clear hg HC HL
  cases c with
  | true =>
    obtain rfl : m = true := by simpa using HM.out
    clear HM
    go_wp2_with fail
    go_ret
    exact ⟨rfl, G.out⟩
  | false =>
    cases o with
    | false =>
      obtain rfl : m = false := by simpa using HM.out
      clear HM
      go_wp2_with fail
      go_ret
      exact ⟨rfl, G.out⟩
    | true =>
      go_wp2_with fail
      refine (HT.out _).mono ?_
      rintro e w3 ⟨rfl, hg⟩
      have L : Lays w3 w.heap.size ⟨true, s, p, t⟩ := Lays.grew ⟨c0, c1, c2, c3, f0⟩ hg
      have G3 := Bx.mk (G.out.trans hg)
      clear hg HT G c0 c1 c2 c3 f0
      obtain ⟨c0, c1, c2, c3, f0⟩ := L
      cases k with
      | false =>
        obtain rfl : m = false := by simpa using HM.out
        clear HM
        go_wp2_with fail
        go_ret
        exact ⟨rfl, G3.out⟩
      | true =>
        by_cases h1 : (1 : Int) ≤ p
        · by_cases h2 : p ≤ 8000
          · obtain rfl : m = true := by simpa [h1, h2] using HM.out
            clear HM
            go_wp2_with fail
            go_ret
            exact ⟨by simp, G3.out⟩
          · obtain rfl : m = false := by simpa [h1, h2] using HM.out
            clear HM
            go_wp2_with fail
            go_ret
            exact ⟨by simp; omega, G3.out⟩
        · obtain rfl : m = false := by simpa [h1] using HM.out
          clear HM
          go_wp2_with fail
          go_ret
          exact ⟨by simp; try omega, G3.out⟩

theorem st_cl {b : Bk} (h : cl b = true) (n : Int) : st b n = 0 := by unfold st; rw [h]; rfl
theorem may_cl {b : Bk} (h : cl b = true) : may b = true := by unfold may; rw [h]; rfl
theorem may_op {b : Bk} (hc : cl b = false) (h : may b = true) : b.op = true ∧ 0 ≤ b.si ∧ b.si ≤ 1099511619775 ∧ 1 ≤ b.sp ∧ b.sp ≤ 8000 := by
  unfold may tk at h
  rw [hc] at h
  simp at h
  exact ⟨h.1.1.1, by omega, by omega, by omega, by omega⟩
theorem st_ill {b : Bk} (h : may b = false) (n : Int) : st b n = 1 := by
  unfold st
  cases hc : cl b with
  | true => rw [may_cl hc] at h; cases h
  | false => rw [h]; rfl
theorem st_op {b : Bk} (hc : cl b = false) (h : may b = true) (n : Int) : st b n = if n < b.si + b.sp then 1 else 2 := by
  unfold st
  rw [hc, h]
  by_cases h1 : n < b.si + b.sp <;> simp [h1]
theorem add_fit {s p : Int} (h0 : 0 ≤ s) (h1 : s ≤ 1099511619775) (h2 : 1 ≤ p) (h3 : p ≤ 8000) : IntKind.i64.wrap (s + p) = s + p := by rw [IntKind.wrap_i64]; omega

set_option maxHeartbeats 1000000 in
theorem state_any (b : Bk) (n : Int) (w : World) : Calls Try.prog 23 #[bv b, .int .i64 n] w (Gv (.int .u8 (st b n)) w) := by
  have HC := Bx.mk (closed_any b)
  have HT := Bx.mk (may_any b)
  unfold Gv at *
  have HL := Bx.mk (lays_box w b)
  have e0 := Bx.mk (fun h => st_cl (b := b) h n)
  have e1 := Bx.mk (fun h => st_ill (b := b) h n)
  have e2 := Bx.mk (fun h h' => st_op (b := b) h h' n)
  have e3 := Bx.mk (fun h h' => may_op (b := b) h h')
  generalize cl b = c at *
  generalize may b = m at *
  generalize st b n = x at *
  obtain ⟨o, s, p, t⟩ := b
  go_enter Try.func23, Try.ntmps23
  go_wp2_with fail
  refine (HC.out _).mono ?_
  rintro e w2 ⟨rfl, hg⟩
  obtain ⟨c0, c1, c2, c3, f0⟩ := HL.out.grew hg
  have G := Bx.mk ((grew_box _ _).trans hg)
  clear hg HC HL
  cases c with
  | true =>
    obtain rfl := e0.out rfl
    go_wp2_with fail
    go_ret
    exact ⟨rfl, G.out⟩
  | false =>
    go_wp2_with fail
    refine (HT.out _).mono ?_
    rintro e w3 ⟨rfl, hg⟩
    have L : Lays w3 w.heap.size ⟨o, s, p, t⟩ := Lays.grew ⟨c0, c1, c2, c3, f0⟩ hg
    have G3 := Bx.mk (G.out.trans hg)
    clear hg HT G c0 c1 c2 c3 f0
    obtain ⟨c0, c1, c2, c3, f0⟩ := L
    cases m with
    | false =>
      obtain rfl := e1.out rfl
      go_wp2_with fail
      go_ret
      exact ⟨rfl, G3.out⟩
    | true =>
      have h2 := e2.out (by trivial) (by trivial)
      obtain ⟨_, h4, h5, h6, h7⟩ := e3.out (by trivial) (by trivial)
      have hw := add_fit h4 h5 h6 h7
      clear e0 e1 e2 e3 h4 h5 h6 h7
      by_cases hlt : n < s + p
      · rw [if_pos hlt] at h2
        subst h2
        go_wp2_with fail
        go_ret
        exact ⟨rfl, G3.out⟩
      · rw [if_neg hlt] at h2
        subst h2
        go_wp2_with fail
        go_ret
        exact ⟨rfl, G3.out⟩

set_option maxHeartbeats 1000000 in
theorem lets_any (b : Bk) (n : Int) (w : World) : Calls Try.prog 34 #[bv b, .int .i64 n] w (Gv (.bool (lets b n)) w) := by
  have HC := Bx.mk (state_any b n)
  unfold Gv at *
  have HL := Bx.mk (lays_box w b)
  have HM : Bx (lets b n = (!decide (st b n = 1) && !b.tr)) := ⟨rfl⟩
  generalize st b n = x at *
  generalize lets b n = m at *
  obtain ⟨o, s, p, t⟩ := b
  go_enter Try.func34, Try.ntmps34
  go_wp2_with fail
  refine (HC.out _).mono ?_
  rintro e w2 ⟨rfl, hg⟩
  obtain ⟨c0, c1, c2, c3, f0⟩ := HL.out.grew hg
  have G := Bx.mk ((grew_box _ _).trans hg)
  clear hg HC HL
  by_cases hx : x = 1
  · subst hx
    obtain rfl : m = false := by simpa using HM.out
    clear HM
    go_wp2_with fail
    go_ret
    exact ⟨rfl, G.out⟩
  · obtain rfl : m = !t := by simpa [hx] using HM.out
    clear HM
    go_wp2_with fail
    go_ret
    exact ⟨by simp [hx], G.out⟩

set_option maxHeartbeats 1000000 in
theorem ends_any (b : Bk) (u : Bool) (w : World) : Calls Try.prog 68 #[bv b, .bool u] w (Gv (.bool (ends b u)) w) := by
  have HC := Bx.mk (may_any b)
  unfold Gv at *
  have HL := Bx.mk (lays_box w b)
  have HM : Bx (ends b u = (u && b.tr && may b)) := ⟨rfl⟩
  generalize may b = x at *
  generalize ends b u = m at *
  obtain ⟨o, s, p, t⟩ := b
  cases u with
  | false =>
    obtain rfl : m = false := by simpa using HM.out
    clear HM HC HL
    go_enter Try.func68, Try.ntmps68
    go_wp2_with fail
    go_ret
    exact ⟨rfl, grew_box _ _⟩
  | true =>
    cases t with
    | false =>
      obtain rfl : m = false := by simpa using HM.out
      clear HM HC HL
      go_enter Try.func68, Try.ntmps68
      go_wp2_with fail
      go_ret
      exact ⟨rfl, grew_box _ _⟩
    | true =>
      obtain rfl : m = x := by simpa using HM.out
      clear HM
      go_enter Try.func68, Try.ntmps68
      go_wp2_with fail
      refine (HC.out _).mono ?_
      rintro e w2 ⟨rfl, hg⟩
      have G := Bx.mk ((grew_box _ _).trans hg)
      clear hg HC HL
      go_wp2_with fail
      go_ret
      exact ⟨rfl, G.out⟩
end Go.Proofs.Ytpidjekabnnmcaa.bk
