/-
  Given for the seat's laws: a plan as it lies in memory, and the contracts of the small functions: isPeriod, isKey, isTick, made, New, keys, asked. No condition but those of the theorems.
-/
import Derived.Test.YtpidjekabnnmcaaDelete
import Derived.Test.YtpidjekabnnmcaaQPure
import Derived.LaidEqlPtr
namespace Go.Proofs.Ytpidjekabnnmcaa.pl
open Go.RowKit mem find pb
set_option linter.unusedVariables false

/-- the plan's head -/
abbrev headCs (r : Nat) (ev : Int) (A : Option Addr) (n c : Nat) : Array Value := #[.pointer (some ⟨r, 0, none⟩), .int .i64 ev, .slice A n c]

/-- a plan: its block, its period, its rows; S: the blocks that may be its own -/
structure Pn (w : World) (S : Nat → Prop) (r : Nat) (ev : Int) (R : List (Int × Int)) : Prop where
  ex : ∃ A c, Lies w r 94 (headCs r ev A R.length c) ∧ RowsAt w A c R ∧ ∀ g, rowOf A = some g → S g
  own : S r
  asc : Asc R
  len : R.length ≤ 64
  lo : 1 ≤ ev
  hi : ev ≤ 1000

theorem own_apart {w : World} {A : Option Addr} {c : Nat} {l : List (Int × Int)} (h : RowsAt w A c l) {g g' : Nat} {t : TypeId} {cs : Array Value} (hg : rowOf A = some g) (hl : Lies w g' t cs) (hne : t ≠ 103) : g ≠ g' := by
  rcases h.2 with ⟨he, h0⟩ | ⟨g1, cap, cur, he, hb, hgg, _⟩
  · simp only [Value.slice.injEq] at he
    obtain ⟨rfl, _, rfl⟩ := he
    simp [rowOf, Value.ownBlock] at hg
  · simp only [Value.slice.injEq] at he
    obtain ⟨rfl, _, rfl⟩ := he
    simp [rowOf, Value.ownBlock] at hg
    subst hg
    rintro rfl
    unfold Lies at hl
    rw [hgg] at hl
    simp at hl
    exact hne hl.2.symm
theorem own_lt {w : World} {A : Option Addr} {c : Nat} {l : List (Int × Int)} (h : RowsAt w A c l) {g : Nat} (hg : rowOf A = some g) : g < w.heap.size := (h.lt g (by rw [rowOf_eq]; exact hg)).2

theorem RowsAt.keep {w w' : World} {B : Nat} {S : Nat → Prop} {A : Option Addr} {c : Nat} {l : List (Int × Int)} (h : RowsAt w A c l) (hk : Keep B S w w') (hB : w.heap.size ≤ B) (hn : ∀ g, rowOf A = some g → ¬ S g) : RowsAt w' A c l :=
  RowsAt.of_same h (fun g e => by rw [rowOf_eq] at e; exact hk.block g (Nat.lt_of_lt_of_le (own_lt h e) hB) (hn g e))

theorem flat_set (l : List (Int × Int)) (k : Nat) (x : Int × Int) (v : Int) (h : l[k]? = some x) : (flat l).set (k * 2 + 1) (.int .i64 v) = flat (l.set k (x.1, v)) := by
  induction l generalizing k with
  | nil => simp at h
  | cons a r ih =>
    cases k with
    | zero => simp at h; subst h; rfl
    | succ k =>
      rw [List.getElem?_cons_succ] at h
      rw [show (k + 1) * 2 + 1 = k * 2 + 1 + 1 + 1 by omega, List.set_cons_succ, flat_cons, flat_cons, List.set_cons_succ, List.set_cons_succ, ih k h]

theorem RowsAt.set {w : World} {g c k : Nat} {l : List (Int × Int)} {x : Int × Int} (h : RowsAt w (some ⟨g, 0, none⟩) c l) (hk : l[k]? = some x) (v : Int) :
    RowsAt (w.setCell ⟨g, k * 2 + 1, none⟩ (.int .i64 v)) (some ⟨g, 0, none⟩) c (l.set k (x.1, v)) := by
  obtain ⟨h1, _⟩ := World.ownsRow.stored h (k * 2 + 1) (.int .i64 v)
  rw [flat_set l k x v hk] at h1
  have e : (l.set k (x.1, v)).length = l.length := List.length_set
  unfold RowsAt
  rw [e]
  exact h1

section
variable {w w' : World} {S S' T : Nat → Prop} {r : Nat} {ev : Int} {R : List (Int × Int)}
theorem Pn.lt (h : Pn w S r ev R) : r < w.heap.size := by obtain ⟨A, c, hl, _⟩ := h.ex; exact hl.lt
theorem Pn.mono (h : Pn w S r ev R) (hs : ∀ g, S g → S' g) : Pn w S' r ev R := by
  obtain ⟨A, c, h1, h2, h3⟩ := h.ex
  exact ⟨⟨A, c, h1, h2, fun g e => hs g (h3 g e)⟩, hs r h.own, h.asc, h.len, h.lo, h.hi⟩
theorem Pn.bounded (h : Pn w S r ev R) : Pn w (fun g => S g ∧ g < w.heap.size) r ev R := by
  obtain ⟨A, c, h1, h2, h3⟩ := h.ex
  exact ⟨⟨A, c, h1, h2, fun g e => ⟨h3 g e, own_lt h2 e⟩⟩, ⟨h.own, h.lt⟩, h.asc, h.len, h.lo, h.hi⟩
theorem Pn.keep (h : Pn w S r ev R) (hk : Keep w.heap.size T w w') (hd : ∀ g, g < w.heap.size → S g → ¬ T g) : Pn w' S r ev R := by
  obtain ⟨A, c, h1, h2, h3⟩ := h.ex
  exact ⟨⟨A, c, h1.keep hk h1.lt (hd _ h1.lt h.own), RowsAt.keep h2 hk (Nat.le_refl _) (fun g e => hd g (own_lt h2 e) (h3 g e)), h3⟩, h.own, h.asc, h.len, h.lo, h.hi⟩
theorem Pn.below (h : Pn w S r ev R) (hb : Below w.heap.size w w') : Pn w' S r ev R := h.keep (Keep.of_below hb (fun _ => False)) (fun _ _ _ hf => hf)
end

/-- what a call leaves that turns the plan -/
structure Did (S : Nat → Prop) (r : Nat) (ev : Int) (R : List (Int × Int)) (w w' : World) : Prop where
  pn : Pn w' (fun g => S g ∨ w.heap.size ≤ g) r ev R
  keep : Keep w.heap.size S w w'

theorem did_same {w w' : World} {S : Nat → Prop} {r : Nat} {ev : Int} {R : List (Int × Int)} (h : Pn w S r ev R) (hb : Below w.heap.size w w') : Did S r ev R w w' := ⟨(h.below hb).mono (fun g e => .inl e), Keep.of_below hb S⟩
theorem Did.from {w w1 w' : World} {S : Nat → Prop} {r : Nat} {ev : Int} {R : List (Int × Int)} (h : Did S r ev R w1 w') (hb : Below w.heap.size w w1) : Did S r ev R w w' :=
  ⟨h.pn.mono (fun g e => by rcases e with e | e; exact .inl e; exact .inr (by have := hb.size; omega)), (Keep.of_below hb S).trans (h.keep.mono hb.size (fun _ _ e => e))⟩

/-! ### isPeriod, isKey, isTick -/
set_option maxHeartbeats 400000 in
theorem period_yes (n : Int) (w : World) (h1 : 1 ≤ n) (h2 : n ≤ 1000) : Calls Try.prog 45 #[.int .i64 n] w fun e w' => e = .returned (.bool true) ∧ w = w' := by
  go_enter Try.func45, Try.ntmps45
  go_wp2
  go_ret
  exact ⟨rfl, rfl⟩
set_option maxHeartbeats 400000 in
theorem period_no (n : Int) (w : World) (h : n < 1 ∨ 1000 < n) : Calls Try.prog 45 #[.int .i64 n] w fun e w' => e = .returned (.bool false) ∧ w = w' := by
  by_cases h1 : n < 1
  · clear h
    go_enter Try.func45, Try.ntmps45
    go_wp2
    go_ret
    exact ⟨rfl, rfl⟩
  · have h2 : decide (n ≤ 1000) = false := by simp; omega
    clear h
    go_enter Try.func45, Try.ntmps45
    go_wp2
    go_ret
    exact ⟨rfl, rfl⟩
set_option maxHeartbeats 400000 in
theorem key_yes (n : Int) (w : World) (h1 : 1 ≤ n) (h2 : n ≤ 1099511627775) : Calls Try.prog 73 #[.int .i64 n] w fun e w' => e = .returned (.bool true) ∧ w = w' := by
  go_enter Try.func73, Try.ntmps73
  go_wp2
  go_ret
  exact ⟨rfl, rfl⟩
set_option maxHeartbeats 400000 in
theorem key_no (n : Int) (w : World) (h : n < 1 ∨ 1099511627775 < n) : Calls Try.prog 73 #[.int .i64 n] w fun e w' => e = .returned (.bool false) ∧ w = w' := by
  by_cases h1 : n < 1
  · clear h
    go_enter Try.func73, Try.ntmps73
    go_wp2
    go_ret
    exact ⟨rfl, rfl⟩
  · have h2 : decide (n ≤ 1099511627775) = false := by simp; omega
    clear h
    go_enter Try.func73, Try.ntmps73
    go_wp2
    go_ret
    exact ⟨rfl, rfl⟩
set_option maxHeartbeats 400000 in
theorem tick_yes (n : Int) (w : World) (h1 : 0 ≤ n) (h2 : n ≤ 1099511626775) : Calls Try.prog 51 #[.int .i64 n] w fun e w' => e = .returned (.bool true) ∧ w = w' := by
  go_enter Try.func51, Try.ntmps51
  go_wp2
  go_ret
  exact ⟨rfl, rfl⟩
set_option maxHeartbeats 400000 in
theorem tick_no (n : Int) (w : World) (h : n < 0 ∨ 1099511626775 < n) : Calls Try.prog 51 #[.int .i64 n] w fun e w' => e = .returned (.bool false) ∧ w = w' := by
  by_cases h1 : n < 0
  · clear h
    go_enter Try.func51, Try.ntmps51
    go_wp2
    go_ret
    exact ⟨rfl, rfl⟩
  · have h2 : decide (n ≤ 1099511626775) = false := by simp; omega
    clear h
    go_enter Try.func51, Try.ntmps51
    go_wp2
    go_ret
    exact ⟨rfl, rfl⟩

/-! ### made -/
theorem run_eql_nil_some (w : World) (b : Nat) : (binOp .eql 33 (.pointer none) (.pointer (some ⟨b, 0, none⟩))).run Try.prog w = .ok (.bool false) w := by
  have h : ∀ d : Nat, (Op.equalIn (d + 1) 33 (.pointer none) (.pointer (some ⟨b, 0, none⟩))).run Try.prog w = .ok false w := fun d => by
    simp [Op.equalIn, run_underlying Try.underlying33]
  simp only [binOp]
  simp [Op.equal, Op.maxDepth, h 9999]
theorem infoPlan' : (Try.prog.info? 94).map (fun _ => ()) = some () := by kernel_rfl
theorem infoPlan : ∃ j, Try.prog.info? 94 = some j := by
  obtain ⟨j, hj, _⟩ := Option.map_eq_some_iff.1 infoPlan'
  exact ⟨j, hj⟩
theorem run_eql_self (w : World) (b : Nat) : (binOp .eql 33 (.pointer (some ⟨b, 0, none⟩)) (.pointer (some ⟨b, 0, none⟩))).run Try.prog w = .ok (.bool true) w := by
  obtain ⟨j, hj⟩ := infoPlan
  exact run_eql_ptr_same w _ Try.underlying33 hj
set_option maxHeartbeats 400000 in
theorem made_nil (w : World) : Calls Try.prog 44 #[.pointer none] w fun e w' => e = .returned (.bool false) ∧ w = w' := by
  go_enter Try.func44, Try.ntmps44
  go_wp2
  go_ret
  exact ⟨rfl, rfl⟩
set_option maxHeartbeats 400000 in
theorem made_not {w : World} {r : Nat} (hc : w.cell? ⟨r, 0, none⟩ = some (.pointer none)) : Calls Try.prog 44 #[.pointer (some ⟨r, 0, none⟩)] w fun e w' => e = .returned (.bool false) ∧ w = w' := by
  have he := run_eql_nil_some w r
  go_enter Try.func44, Try.ntmps44
  go_wp2
  go_ret
  exact ⟨rfl, rfl⟩
set_option maxHeartbeats 400000 in
theorem made_at {w : World} {r : Nat} (hc : w.cell? ⟨r, 0, none⟩ = some (.pointer (some ⟨r, 0, none⟩))) : Calls Try.prog 44 #[.pointer (some ⟨r, 0, none⟩)] w fun e w' => e = .returned (.bool true) ∧ w = w' := by
  have he := run_eql_self w r
  go_enter Try.func44, Try.ntmps44
  go_wp2
  go_ret
  exact ⟨rfl, rfl⟩
theorem made_yes {w : World} {S : Nat → Prop} {r : Nat} {ev : Int} {R : List (Int × Int)} (h : Pn w S r ev R) : Calls Try.prog 44 #[.pointer (some ⟨r, 0, none⟩)] w fun e w' => e = .returned (.bool true) ∧ w = w' := by
  obtain ⟨A, c, h1, _⟩ := h.ex
  exact made_at (h1.cell 0)

/-! ### New -/
theorem asc_nil : Asc [] := fun i j x y _ h => by simp at h
/-- what New leaves -/
structure News (w : World) (r : Nat) (ev : Int) (w' : World) : Prop where
  pn : Pn w' (fun g => w.heap.size ≤ g) r ev []
  below : Below w.heap.size w w'

set_option maxHeartbeats 1000000 in
theorem new_ok (ev : Int) (w : World) (h1 : 1 ≤ ev) (h2 : ev ≤ 1000) :
    Calls Try.prog 39 #[.int .i64 ev] w fun e w' => e = .returned (.tuple #[.pointer (some ⟨w.heap.size, 0, none⟩), .int .i64 0]) ∧ News w w.heap.size ev w' := by
  have HP := Lib.hid (period_yes ev w h1 h2)
  have f0 := Lies.frozen (Lies.new w 94 #[.pointer none, .int .i64 ev, .slice none 0 0]) 0
  have c0 := Lies.cell (Lies.new w 94 #[.pointer none, .int .i64 ev, .slice none 0 0]) 0
  simp at c0
  go_enter Try.func39, Try.ntmps39
  go_wp2_with (go_at_call 45; refine HP.out.mono ?_; rintro e w' ⟨rfl, rfl⟩)
  go_ret2
  refine ⟨rfl, ⟨⟨none, 0, Lies.new w 94 _, World.ownsRow_nil _ _ _ _, fun g e => by cases e⟩, Nat.le_refl _, asc_nil, by simp, h1, h2⟩, ?_⟩
  exact (Below.refl _ w).alloc (Nat.le_refl _) _

set_option maxHeartbeats 1000000 in
theorem new_no (ev : Int) (w : World) (h : ev < 1 ∨ 1000 < ev) :
    Calls Try.prog 39 #[.int .i64 ev] w fun e w' => e = .returned (.tuple #[.pointer none, .int .i64 2]) ∧ w = w' := by
  have HP := Lib.hid (period_no ev w h)
  clear h
  go_enter Try.func39, Try.ntmps39
  go_wp2_with (go_at_call 45; refine HP.out.mono ?_; rintro e w' ⟨rfl, rfl⟩)
  go_ret2
  exact ⟨rfl, rfl⟩

/-! ### keys, asked -/
set_option maxHeartbeats 400000 in
theorem keys_fn (p : Option Addr) (w : World) : Calls Try.prog 52 #[.pointer p] w fun e w' => e = .returned (.func (.func 67) #[] #[.pointer (some ⟨w.heap.size, 0, none⟩)]) ∧ w' = w.alloc (.cells #[.pointer p] 33) := by
  go_enter Try.func52, Try.ntmps52
  go_wp2
  go_ret
  exact ⟨rfl, rfl⟩

set_option maxHeartbeats 400000 in
theorem asked_no {w : World} {g o : Nat} {nx now ev : Int} (hc : w.cell? ⟨g, o + 1, none⟩ = some (.int .i64 nx)) (h : now < nx) :
    Calls Try.prog 53 #[.pointer (some ⟨g, o, none⟩), .int .i64 now, .int .i64 ev] w fun e w' => e = .returned (.bool false) ∧ w = w' := by
  go_enter Try.func53, Try.ntmps53
  go_wp2
  go_ret
  exact ⟨rfl, rfl⟩

set_option maxHeartbeats 400000 in
theorem asked_yes {w : World} {g o : Nat} {nx now ev : Int} (hc : w.cell? ⟨g, o + 1, none⟩ = some (.int .i64 nx)) (hf : w.frozen? ⟨g, o + 1, none⟩ = false) (h : nx ≤ now) (n1 : 0 ≤ now) (n2 : now ≤ 1099511626775) (e1 : 1 ≤ ev) (e2 : ev ≤ 1000) :
    Calls Try.prog 53 #[.pointer (some ⟨g, o, none⟩), .int .i64 now, .int .i64 ev] w fun e w' => e = .returned (.bool true) ∧ w' = w.setCell ⟨g, o + 1, none⟩ (.int .i64 (now + ev)) := by
  have hw : IntKind.i64.wrap (now + ev) = now + ev := IntWalk.i64_in _ (by omega)
  have hn : ¬ now < nx := by omega
  go_enter Try.func53, Try.ntmps53
  go_wp2
  go_ret
  exact ⟨rfl, rfl⟩
end Go.Proofs.Ytpidjekabnnmcaa.pl
