/-
  Given for 'Rows.RackOwnSaid': the rack's calls, beside the two arrays and the act's box. No condition but those of the theorems.
-/
import Derived.Test.YtcecdcdnjbndiaaOwnPure
namespace Go.Proofs.Ytcecdcdnjbndiaa.rack
open Go.RowKit mem find
set_option linter.unusedVariables false

section
variable {w W : World} {S : Nat → Prop} {r N bT bV X m k : Nat} {st : Int} {R : List (Int × Int)} {tcs vcs xcs : Array Value}

/-- what Give leaves -/
structure GiveOw (w : World) (r N : Nat) (st : Int) (R : List (Int × Int)) (bT bV : Nat) (tcs vcs : Array Value) (X : Nat) (xcs : Array Value) (k : Nat) (v : Int) (e : Ending) (W' : World) : Prop where
  ex : ∃ (y : Nat) (S' : Nat → Prop) (m' : Nat), 1 ≤ y ∧ y ≤ 800 ∧ e = .returned (.tuple #[.int .i64 (y : Int), .int .i64 0]) ∧ ¬ Has R y ∧
    OwX w S' r N (1 + (m' : Int) * st) st (insR ((y : Int), v) R) bT bV tcs vcs X xcs W' ∧ m' + cnt (insR ((y : Int), v) R) (1 + (m' : Int) * st) ≤ k + 1

theorem give_ow (h : OwX w S r N (1 + (m : Int) * st) st R bT bV tcs vcs X xcs W) (hcm : m + cnt R (1 + (m : Int) * st) ≤ k) (hk : k ≤ 150) (h1 : 1 ≤ st) (h2 : st ≤ 2) (hf : R.length < N) (v : Int) :
    Calls Try.prog 9 #[.pointer (some ⟨r, 0, none⟩), .int .i64 v] W (GiveOw w r N st R bT bV tcs vcs X xcs k v) := by
  have h64 := h.b.st.rk.size
  have hms : (m : Int) * st ≤ 150 * 2 := Int.mul_le_mul (by omega) h2 (by omega) (by omega)
  have hms0 : 0 ≤ (m : Int) * st := Int.mul_nonneg (by omega) (by omega)
  refine (give_any h.b.st.rk hf (by omega) (by omega) h1 (by omega) v).mono ?_
  rintro e W' ⟨q, hu, hh⟩
  have hcu := cnt_used h1 q (fun j hj => (hu j hj).2)
  have hq : m + q ≤ 150 := by omega
  have hqs : ((m + q : Nat) : Int) * st ≤ 150 * 2 := Int.mul_le_mul (by omega) h2 (by omega) (by omega)
  have hqs0 : 0 ≤ ((m + q : Nat) : Int) * st := Int.mul_nonneg (by omega) (by omega)
  have ey : 1 + (m : Int) * st + (q : Int) * st = 1 + ((m + q : Nat) : Int) * st := by rw [show ((m + q : Nat) : Int) = (m : Int) + (q : Int) by omega, Int.add_mul]; omega
  have ex : 1 + (m : Int) * st + ((q + 1 : Nat) : Int) * st = 1 + ((m + q + 1 : Nat) : Int) * st := by
    rw [show ((m + q + 1 : Nat) : Int) = (m : Int) + (q : Int) + 1 by omega, show ((q + 1 : Nat) : Int) = (q : Int) + 1 by omega, Int.add_mul, Int.add_mul, Int.add_mul]; omega
  have elt : 1 + ((m + q : Nat) : Int) * st < 1 + ((m + q + 1 : Nat) : Int) * st := by
    rw [show ((m + q + 1 : Nat) : Int) = ((m + q : Nat) : Int) + 1 by omega, Int.add_mul]; omega
  rw [ey, ex] at hh
  rw [ey] at hcu
  obtain ⟨y, hy⟩ : ∃ y : Nat, 1 + ((m + q : Nat) : Int) * st = (y : Int) := ⟨(1 + ((m + q : Nat) : Int) * st).toNat, by omega⟩
  rw [hy] at hh elt hcu
  rcases hh with ⟨g1, g2, rfl, hd⟩ | ⟨g1, _⟩
  · obtain ⟨S', hx⟩ := h.did hd
    refine ⟨y, S', m + q + 1, by omega, by omega, rfl, g2, hx, ?_⟩
    rw [cnt_insR, if_neg (by show ¬ _ ≤ (y : Int); omega)]
    have := cnt_anti R (Int.le_of_lt elt)
    omega
  · omega

theorem hold_zero (h : OwX w S r N (1 + (m : Int) * st) st R bT bV tcs vcs X xcs W) (v : Int) : Calls Try.prog 11 #[.pointer (some ⟨r, 0, none⟩), .int .i64 0, .int .i64 v] W fun e w' => e = .returned (.int .i64 2) ∧ Below W.heap.size W w' := by
  by_cases hin : Has R 0
  · exact hold_used h.b.st.rk hin v
  · exact hold_wrong h.b.st.rk hin (.inl (by omega)) v

theorem cnt_after_ins (y : Int × Int) (hcm : m + cnt R (1 + (m : Int) * st) ≤ k) : m + cnt (insR y R) (1 + (m : Int) * st) ≤ k + 1 := by
  rw [cnt_insR]; split <;> omega
theorem cnt_after_del (id : Int) (hcm : m + cnt R (1 + (m : Int) * st) ≤ k) : m + cnt (delR id R) (1 + (m : Int) * st) ≤ k + 1 := by
  have := cnt_delR id R (1 + (m : Int) * st); omega
theorem cnt_after_set (id v : Int) (hcm : m + cnt R (1 + (m : Int) * st) ≤ k) : m + cnt (setR id v R) (1 + (m : Int) * st) ≤ k + 1 := by
  rw [cnt_setR]; omega

/-- the facts that the loads beside a call want -/
abbrev Loads (bT X y : Nat) (kd v : Int) (b : Bool) (W : World) : Prop :=
  W.cell? ⟨X, 1, none⟩ = some (.int .i64 (y : Int)) ∧ W.cell? ⟨X, 2, none⟩ = some (.int .i64 v) ∧ W.cell? ⟨bT, y, none⟩ = some (.bool b)
theorem OwX.loads {nx : Int} {y : Nat} {kd v : Int} (h : OwX w S r N nx st R bT bV tcs vcs X #[.int .u8 kd, .int .i64 (y : Int), .int .i64 v] W) {b : Bool} (hb : tcs[y]? = some (.bool b)) : Loads bT X y kd v b W :=
  ⟨h.x.cell 1, h.x.cell 2, (h.b.t.cell y).trans hb⟩

theorem set_ow_in {y : Nat} {kd v : Int} (h : OwX w S r N (1 + (m : Int) * st) st R bT bV tcs vcs X #[.int .u8 kd, .int .i64 (y : Int), .int .i64 v] W) (hin : Has R y) (ht : tcs[y]? = some (.bool true)) :
    Calls Try.prog 13 #[.pointer (some ⟨r, 0, none⟩), .int .i64 (y : Int), .int .i64 v] W fun e W' => e = .returned (.int .i64 0) ∧ Loads bT X y kd v true W' ∧ ∃ S', OwX w S' r N (1 + (m : Int) * st) st (setR y v R) bT bV tcs vcs X #[.int .u8 kd, .int .i64 (y : Int), .int .i64 v] W' := by
  obtain ⟨i, u, hi⟩ := has_get hin
  refine (set_in h.b.st.rk hi v).mono ?_
  rintro e W' ⟨rfl, hd⟩
  obtain ⟨S', hx⟩ := h.did hd
  exact ⟨rfl, hx.loads ht, S', hx⟩
theorem set_ow_out {y : Nat} {kd v : Int} (h : OwX w S r N (1 + (m : Int) * st) st R bT bV tcs vcs X #[.int .u8 kd, .int .i64 (y : Int), .int .i64 v] W) (hin : ¬ Has R y) (ht : tcs[y]? = some (.bool false)) :
    Calls Try.prog 13 #[.pointer (some ⟨r, 0, none⟩), .int .i64 (y : Int), .int .i64 v] W fun e W' => e = .returned (.int .i64 30) ∧ Loads bT X y kd v false W' ∧ OwX w S r N (1 + (m : Int) * st) st R bT bV tcs vcs X #[.int .u8 kd, .int .i64 (y : Int), .int .i64 v] W' := by
  refine (set_out h.b.st.rk hin v).mono ?_
  rintro e W' ⟨rfl, hb⟩
  exact ⟨rfl, (h.later hb).loads ht, h.later hb⟩
theorem drop_ow_in {y : Nat} {kd v : Int} (h : OwX w S r N (1 + (m : Int) * st) st R bT bV tcs vcs X #[.int .u8 kd, .int .i64 (y : Int), .int .i64 v] W) (hin : Has R y) (ht : tcs[y]? = some (.bool true)) :
    Calls Try.prog 15 #[.pointer (some ⟨r, 0, none⟩), .int .i64 (y : Int)] W fun e W' => e = .returned (.int .i64 0) ∧ Loads bT X y kd v true W' ∧ (∃ S', OwX w S' r N (1 + (m : Int) * st) st (delR y R) bT bV tcs vcs X #[.int .u8 kd, .int .i64 (y : Int), .int .i64 v] W') ∧ (delR y R).length = R.length - 1 := by
  obtain ⟨i, u, hi⟩ := has_get hin
  refine (drop_in h.b.st.rk hi).mono ?_
  rintro e W' ⟨rfl, hd⟩
  obtain ⟨S', hx⟩ := h.did hd
  exact ⟨rfl, hx.loads ht, ⟨S', hx⟩, length_delR h.b.st.rk.sorted hi⟩
theorem drop_ow_out {y : Nat} {kd v : Int} (h : OwX w S r N (1 + (m : Int) * st) st R bT bV tcs vcs X #[.int .u8 kd, .int .i64 (y : Int), .int .i64 v] W) (hin : ¬ Has R y) (ht : tcs[y]? = some (.bool false)) :
    Calls Try.prog 15 #[.pointer (some ⟨r, 0, none⟩), .int .i64 (y : Int)] W fun e W' => e = .returned (.int .i64 30) ∧ Loads bT X y kd v false W' ∧ OwX w S r N (1 + (m : Int) * st) st R bT bV tcs vcs X #[.int .u8 kd, .int .i64 (y : Int), .int .i64 v] W' := by
  refine (drop_out h.b.st.rk hin).mono ?_
  rintro e W' ⟨rfl, hb⟩
  exact ⟨rfl, (h.later hb).loads ht, h.later hb⟩
theorem has_length {y : Int} (h : Has R y) : 1 ≤ R.length := by
  obtain ⟨k, v, hk⟩ := has_get h
  have := (List.getElem?_eq_some_iff.1 hk).1
  omega
end

end Go.Proofs.Ytcecdcdnjbndiaa.rack
