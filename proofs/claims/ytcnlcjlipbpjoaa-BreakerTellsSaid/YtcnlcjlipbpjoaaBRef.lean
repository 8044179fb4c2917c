/-
  Given for the seat's laws: the contracts of the document's own May, State, Lets. No condition but those of the theorems.
-/
import Derived.Test.YtcnlcjlipbpjoaaBFns2
namespace Go.Proofs.Ytcnlcjlipbpjoaa.bk
open Go.RowKit mem
set_option linter.unusedVariables false
set_option linter.unusedSimpArgs false

set_option maxHeartbeats 1000000 in
theorem rmay_any (b : Bk) (w : World) : Calls Try.prog 10 #[bv b] w (Gv (.bool (may b)) w) := by
  unfold Gv
  obtain ⟨o, s, p, t⟩ := b
  have HM : Bx (may ⟨o, s, p, t⟩ = ((!o && !t && decide (s = 0) && decide (p = 0)) || (o && decide (0 ≤ s) && decide (s ≤ 1099511619775) && decide (1 ≤ p) && decide (p ≤ 8000)))) := ⟨by
    unfold may cl tk zb
    cases o <;> cases t <;> simp [Bool.and_assoc]⟩
  generalize may ⟨o, s, p, t⟩ = m at *
  cases o with
  | false =>
    cases t with
    | true =>
      obtain rfl : m = false := by simpa using HM.out
      clear HM
      go_enter Try.func10, Try.ntmps10
      go_wp2_with fail
      go_ret
      exact ⟨rfl, grew_box _ _⟩
    | false =>
      by_cases h1 : s = 0
      · by_cases h2 : p = 0
        · obtain rfl : m = true := by simpa [h1, h2] using HM.out
          clear HM
          subst h1
          subst h2
          go_enter Try.func10, Try.ntmps10
          go_wp2_with fail
          go_ret
          exact ⟨rfl, grew_box _ _⟩
        · obtain rfl : m = false := by simpa [h1, h2] using HM.out
          clear HM
          subst h1
          go_enter Try.func10, Try.ntmps10
          go_wp2_with fail
          go_ret
          exact ⟨by simp, grew_box _ _⟩
      · obtain rfl : m = false := by simpa [h1] using HM.out
        clear HM
        go_enter Try.func10, Try.ntmps10
        go_wp2_with fail
        go_ret
        exact ⟨by simp, grew_box _ _⟩
  | true =>
    by_cases h1 : (0 : Int) ≤ s
    · by_cases h2 : s ≤ 1099511619775
      · by_cases h3 : (1 : Int) ≤ p
        · by_cases h4 : p ≤ 8000
          · obtain rfl : m = true := by simpa [h1, h2, h3, h4] using HM.out
            clear HM
            go_enter Try.func10, Try.ntmps10
            go_wp2_with fail
            go_ret
            exact ⟨by simp, grew_box _ _⟩
          · obtain rfl : m = false := by simpa [h1, h2, h3, h4] using HM.out
            clear HM
            go_enter Try.func10, Try.ntmps10
            go_wp2_with fail
            go_ret
            exact ⟨by simp, grew_box _ _⟩
        · obtain rfl : m = false := by simpa [h1, h2, h3] using HM.out
          clear HM
          go_enter Try.func10, Try.ntmps10
          go_wp2_with fail
          go_ret
          exact ⟨by simp, grew_box _ _⟩
      · obtain rfl : m = false := by simpa [h1, h2] using HM.out
        clear HM
        go_enter Try.func10, Try.ntmps10
        go_wp2_with fail
        go_ret
        exact ⟨by simp, grew_box _ _⟩
    · obtain rfl : m = false := by simpa [h1] using HM.out
      clear HM
      go_enter Try.func10, Try.ntmps10
      go_wp2_with fail
      go_ret
      exact ⟨by simp, grew_box _ _⟩

theorem op_cl {b : Bk} (h : b.op = true) : cl b = false := by
  unfold cl
  cases e : decide (b = zb) with
  | false => rfl
  | true => rw [of_decide_eq_true e] at h; cases h
theorem cl_op {b : Bk} (hm : may b = true) (h : b.op = false) : cl b = true := by
  unfold may at hm
  rw [h] at hm
  simpa using hm

set_option maxHeartbeats 1000000 in
theorem rstate_any (b : Bk) (n : Int) (w : World) : Calls Try.prog 12 #[bv b, .int .i64 n] w (Gv (.int .i64 (st b n)) w) := by
  have HT := Bx.mk (rmay_any b)
  unfold Gv at *
  have HL := Bx.mk (lays_box w b)
  have e0 := Bx.mk (fun h h' => st_cl (b := b) (cl_op (b := b) h h') n)
  have e1 := Bx.mk (fun h => st_ill (b := b) h n)
  have e2 := Bx.mk (fun h h' => st_op (b := b) (op_cl h) h' n)
  have e3 := Bx.mk (fun h h' => may_op (b := b) (op_cl h) h')
  generalize may b = m at *
  generalize st b n = x at *
  obtain ⟨o, s, p, t⟩ := b
  go_enter Try.func12, Try.ntmps12
  go_wp2_with fail
  refine (HT.out _).mono ?_
  rintro e w2 ⟨rfl, hg⟩
  obtain ⟨c0, c1, c2, c3, f0⟩ := HL.out.grew hg
  have G := Bx.mk ((grew_box _ _).trans hg)
  clear hg HT HL
  cases m with
  | false =>
    obtain rfl := e1.out (by trivial)
    clear e0 e1 e2 e3
    go_wp2_with fail
    go_ret
    exact ⟨rfl, G.out⟩
  | true =>
    cases o with
    | false =>
      obtain rfl := e0.out (by trivial) (by trivial)
      clear e0 e1 e2 e3
      go_wp2_with fail
      go_ret
      exact ⟨rfl, G.out⟩
    | true =>
      have h2 := e2.out (by trivial) (by trivial)
      obtain ⟨_, h4, h5, h6, h7⟩ := e3.out (by trivial) (by trivial)
      have hw := add_fit h4 h5 h6 h7
      clear e0 e1 e2 e3 h4 h5 h6 h7
      by_cases hlt : n < s + p
      · rw [if_pos hlt] at h2
        subst h2
        go_wp2_with fail
        go_ret
        exact ⟨rfl, G.out⟩
      · rw [if_neg hlt] at h2
        subst h2
        go_wp2_with fail
        go_ret
        exact ⟨rfl, G.out⟩

set_option maxHeartbeats 1000000 in
theorem rlets_any (b : Bk) (n : Int) (w : World) : Calls Try.prog 14 #[bv b, .int .i64 n] w (Gv (.bool (lets b n)) w) := by
  have HC := Bx.mk (rstate_any b n)
  unfold Gv at *
  have HL := Bx.mk (lays_box w b)
  have HX : Bx (st b n = 0 ∨ st b n = 1 ∨ st b n = 2) := ⟨by unfold st; split <;> (try split) <;> simp⟩
  have HM : Bx (lets b n = (!decide (st b n = 1) && !b.tr)) := ⟨rfl⟩
  have HR : Bx (st b n = 0 → b.tr = false) := ⟨fun h => by
    have : cl b = true := by
      cases e : cl b with
      | true => rfl
      | false =>
        unfold st at h
        rw [e] at h
        simp at h
        split at h <;> cases h
    unfold cl at this
    rw [of_decide_eq_true this]⟩
  generalize st b n = x at *
  generalize lets b n = m at *
  obtain ⟨o, s, p, t⟩ := b
  go_enter Try.func14, Try.ntmps14
  go_wp2_with fail
  refine (HC.out _).mono ?_
  rintro e w2 ⟨rfl, hg⟩
  have HL2 := Bx.mk (HL.out.grew hg)
  have G := Bx.mk ((grew_box _ _).trans hg)
  clear hg HL
  obtain ⟨c0, c1, c2, c3, f0⟩ := HL2.out
  rcases HX.out with rfl | rfl | rfl
  · obtain rfl : t = false := HR.out rfl
    obtain rfl : m = true := by simpa using HM.out
    clear HM HR HX HC HL2
    go_wp2_with fail
    go_ret
    exact ⟨rfl, G.out⟩
  · obtain rfl : m = false := by simpa using HM.out
    clear HM HR HX
    go_wp2_with fail
    refine (HC.out _).mono ?_
    rintro e w3 ⟨rfl, hg⟩
    have G3 := Bx.mk (G.out.trans hg)
    obtain ⟨c0, c1, c2, c3, f0⟩ := HL2.out.grew hg
    clear hg HC HL2
    go_wp2_with fail
    go_ret
    exact ⟨rfl, G3.out⟩
  · obtain rfl : m = !t := by simpa using HM.out
    clear HM HR HX
    go_wp2_with fail
    refine (HC.out _).mono ?_
    rintro e w3 ⟨rfl, hg⟩
    have G3 := Bx.mk (G.out.trans hg)
    obtain ⟨c0, c1, c2, c3, f0⟩ := HL2.out.grew hg
    clear hg HC HL2
    go_wp2_with fail
    go_ret
    exact ⟨rfl, G3.out⟩
theorem lets_ill {b : Bk} (h : may b = false) (n : Int) : lets b n = false := by unfold lets; rw [st_ill h]; rfl
theorem tk_n {n : Int} (h : n < 0) : tk n = false := by unfold tk; simp; omega
theorem tk_g {n : Int} (h : 1099511619775 < n) : tk n = false := by unfold tk; simp; omega
theorem tk_ok {n : Int} (h : 0 ≤ n) (h2 : n ≤ 1099511619775) : tk n = true := by unfold tk; simp; omega
theorem ck_n {n : Int} (h : n < 1) : ck n = false := by unfold ck; simp; omega
theorem ck_g {n : Int} (h : 1000 < n) : ck n = false := by unfold ck; simp; omega
theorem ck_ok {n : Int} (h : 1 ≤ n) (h2 : n ≤ 1000) : ck n = true := by unfold ck; simp; omega
end Go.Proofs.Ytcnlcjlipbpjoaa.bk
