/-
  PROVED HERE: 'Rows.RingNilSaid': for every act, RingNil returns true (a nil ring and a ring that New did not return hold nothing, and take nothing), and the act reads afterwards as it read before. No condition.
-/
import Derived.Test.YthagggclhahikaaActs
import Derived.Test.YthagggclhahikaaMem
import Derived.WalkKit
import Derived.WalkSpells
import Derived.WalkLawsBesides
import Derived.ProofKit
import Derived.OpenShut
import Derived.ChangeOld
import Derived.Below
import Derived.Lib.SmallJoins
import Derived.Lib.Hide
namespace Go.Proofs.Ythagggclhahikaa.nilRing
open Go.ChangeShapes Go.WideShapes Go.ChangeAt Go.RowKit Go.Joins acts mem
set_option linter.unusedVariables false

/-- a pointer to a ring that nobody made: nil, or a block whose first cell is nil -/
def NotMade (w : World) (p : Option Addr) : Prop := p = none ∨ ∃ b, p = some ⟨b, 0, none⟩ ∧ w.cell? ⟨b, 0, none⟩ = some (.pointer none)

theorem run_eql_nil_some (w : World) (b : Nat) : (binOp .eql 24 (.pointer none) (.pointer (some ⟨b, 0, none⟩))).run Try.prog w = .ok (.bool false) w := by
  have h : ∀ d : Nat, (Op.equalIn (d + 1) 24 (.pointer none) (.pointer (some ⟨b, 0, none⟩))).run Try.prog w = .ok false w := fun d => by
    simp [Op.equalIn, run_underlying Try.underlying24]
  simp only [binOp]
  simp [Op.equal, Op.maxDepth, h 9999]

set_option maxHeartbeats 400000 in
theorem made_no (w : World) (p : Option Addr) (h : NotMade w p) : Calls Try.prog 26 #[.pointer p] w fun e w' => e = .returned (.bool false) ∧ w = w' := by
  rcases h with rfl | ⟨b, rfl, hc⟩
  · go_enter Try.func26, Try.ntmps26
    go_wp2
    go_ret
    exact ⟨rfl, rfl⟩
  · have he : (binOp .eql 24 (.pointer none) (.pointer (some ⟨b, 0, none⟩))).run Try.prog w = .ok (.bool false) w := run_eql_nil_some w b
    go_enter Try.func26, Try.ntmps26
    go_wp2
    go_ret
    exact ⟨rfl, rfl⟩

set_option maxHeartbeats 400000 in
theorem len_no (w : World) (p : Option Addr) (h : NotMade w p) : Calls Try.prog 21 #[.pointer p] w fun e w' => e = .returned (.int .i64 0) ∧ w = w' := by
  go_enter Try.func21, Try.ntmps21
  go_wp2_with (go_at_call 26; refine (made_no _ _ h).mono ?_; rintro e w' ⟨rfl, rfl⟩)
  go_ret
  exact ⟨rfl, rfl⟩

set_option maxHeartbeats 400000 in
theorem size_no (w : World) (p : Option Addr) (h : NotMade w p) : Calls Try.prog 23 #[.pointer p] w fun e w' => e = .returned (.int .i64 0) ∧ w = w' := by
  go_enter Try.func23, Try.ntmps23
  go_wp2_with (go_at_call 26; refine (made_no _ _ h).mono ?_; rintro e w' ⟨rfl, rfl⟩)
  go_ret
  exact ⟨rfl, rfl⟩

set_option maxHeartbeats 400000 in
theorem room_no (w : World) (p : Option Addr) (h : NotMade w p) : Calls Try.prog 22 #[.pointer p] w fun e w' => e = .returned (.int .i64 0) ∧ w = w' := by
  go_enter Try.func22, Try.ntmps22
  go_wp2_with (first | (go_at_call 23; refine (size_no _ _ h).mono ?_; rintro e w' ⟨rfl, rfl⟩) | (go_at_call 21; refine (len_no _ _ h).mono ?_; rintro e w' ⟨rfl, rfl⟩))
  go_ret
  exact ⟨rfl, rfl⟩

set_option maxHeartbeats 400000 in
theorem skip_no (w : World) (p : Option Addr) (n : Int) (h : NotMade w p) : Calls Try.prog 17 #[.pointer p, .int .i64 n] w fun e w' => e = .returned (.int .i64 1) ∧ w = w' := by
  go_enter Try.func17, Try.ntmps17
  go_wp2_with (go_at_call 26; refine (made_no _ _ h).mono ?_; rintro e w' ⟨rfl, rfl⟩)
  go_ret
  exact ⟨rfl, rfl⟩

set_option maxHeartbeats 400000 in
theorem peek_no (w : World) (p : Option Addr) (n : Int) (h : NotMade w p) : Calls Try.prog 19 #[.pointer p, .int .i64 n] w fun e w' => e = .returned (.slice none 0 0) ∧ w = w' := by
  have hm : min n 0 ≤ 0 := by omega
  go_enter Try.func19, Try.ntmps19
  go_wp2_with (go_at_call 21; refine (len_no _ _ h).mono ?_; rintro e w' ⟨rfl, rfl⟩)
  all_goals go_ret
  all_goals exact ⟨rfl, rfl⟩

set_option maxHeartbeats 400000 in
theorem put_no (w : World) (p : Option Addr) (A : Option Addr) (l c : Nat) (h : NotMade w p) : Calls Try.prog 12 #[.pointer p, .slice A l c] w fun e w' => e = .returned (.int .i64 0) ∧ w = w' := by
  have hm : min (l : Int) 0 = 0 := by omega
  go_enter Try.func12, Try.ntmps12
  go_wp2_with (go_at_call 22; refine (room_no _ _ h).mono ?_; rintro e w' ⟨rfl, rfl⟩)
  all_goals go_ret
  all_goals exact ⟨rfl, rfl⟩

theorem take_no (w : World) (p : Option Addr) (n : Int) (h : NotMade w p) : Calls Try.prog 15 #[.pointer p, .int .i64 n] w fun e w' => e = .returned (.slice none 0 0) ∧ w = w' := by
  go_enter Try.func15, Try.ntmps15
  go_wp2_with (first | (go_at_call 19; refine (peek_no _ _ _ h).mono ?_; rintro e w' ⟨rfl, rfl⟩) | (go_at_call 17; refine (skip_no _ _ _ h).mono ?_; rintro e w' ⟨rfl, rfl⟩))
  go_ret
  exact ⟨rfl, rfl⟩

theorem acts_one (w : World) (k n : Int) (A : Option Addr) (l c : Nat) (g : Nat) (h : Lies w g 33 #[.int .u8 k, .int .i64 n, .slice A l c]) : ActsAt w (some ⟨g, 0, none⟩) [⟨k, n, A, l, c⟩] := by
  intro _
  refine ⟨g, 0, rfl, fun i x hx => ?_⟩
  match i, hx with
  | 0, hx =>
    simp at hx
    subst hx
    exact ⟨h.cell 0, h.cell 1, h.cell 2⟩

/-- the world where the loop begins -/
def atLoop (w : World) (x : Array Value) : World :=
  (((w.alloc (.cells x 33)).alloc (.cells x 33)).alloc (.cells #[.pointer none, .slice none 0 0, .int .i64 0, .int .i64 0] 45)).alloc (.cells #[.pointer none, .pointer (some ⟨w.heap.size + 1 + 1, 0, none⟩)] 24)
theorem atLoop_facts (w : World) (x : Array Value) : Lies (atLoop w x) w.heap.size 33 x ∧ Lies (atLoop w x) (w.heap.size + 1 + 1) 45 #[.pointer none, .slice none 0 0, .int .i64 0, .int .i64 0] ∧
    Lies (atLoop w x) (w.heap.size + 1 + 1 + 1) 24 #[.pointer none, .pointer (some ⟨w.heap.size + 1 + 1, 0, none⟩)] ∧ Below w.heap.size w (atLoop w x) := by
  unfold atLoop
  have h0 := Lies.new w 33 x
  have h1 := Lies.new ((w.alloc (.cells x 33)).alloc (.cells x 33)) 45 #[.pointer none, .slice none 0 0, .int .i64 0, .int .i64 0]
  have h2 := Lies.new (((w.alloc (.cells x 33)).alloc (.cells x 33)).alloc (.cells #[.pointer none, .slice none 0 0, .int .i64 0, .int .i64 0] 45)) 24 #[.pointer none, .pointer (some ⟨w.heap.size + 1 + 1, 0, none⟩)]
  simp only [World.size_alloc] at h1 h2
  exact ⟨((h0.alloc _).alloc _).alloc _, h1.alloc _, h2, ((((Below.refl _ _).alloc (Nat.le_refl _) _).alloc (by simp) _).alloc (by simp; omega) _).alloc (by simp; omega) _⟩

set_option maxHeartbeats 1000000 in
theorem walk (k n : Int) (A : Option Addr) (l c : Nat) (w : World) :
    Calls Try.prog 4 #[.agg #[.int .u8 k, .int .i64 n, .slice A l c]] w fun e w' => e = .returned (.bool true) ∧ Below w.heap.size w w' := by
  have hA := acts_one ((w.alloc (.cells #[.int .u8 k, .int .i64 n, .slice A l c] 33)).alloc (.cells #[.int .u8 k, .int .i64 n, .slice A l c] 33)) k n A l c (w.heap.size + 1) (by simpa using Lies.new (w.alloc (.cells #[.int .u8 k, .int .i64 n, .slice A l c] 33)) 33 #[.int .u8 k, .int .i64 n, .slice A l c])
  by_cases hg : greatB [⟨k, n, A, l, c⟩] = true
  · have HG := Lib.hid hg
    clear hg
    go_enter Try.func4, Try.ntmps4
    go_wp2_with (fail)
    refine (great_any _ _ [⟨k, n, A, l, c⟩] _ (by simp [maxLen]) hA).mono ?_
    rintro e w' ⟨rfl, rfl⟩
    rw [HG.out]
    clear hA
    go_wp2_with (fail)
    go_ret
    exact ⟨rfl, ((Below.refl _ _).alloc (Nat.le_refl _) _).alloc (by simp) _⟩
  · have HG := Lib.hid ((Bool.not_eq_true _).mp hg)
    clear hg
    obtain ⟨f0, f1, f2, f3⟩ := atLoop_facts w #[.int .u8 k, .int .i64 n, .slice A l c]
    unfold atLoop at f0 f1 f2 f3
    have F0 := Lib.hid f0
    have F1 := Lib.hid f1
    have F2 := Lib.hid f2
    have F3 := Lib.hid f3
    clear f0 f1 f2 f3
    go_enter Try.func4, Try.ntmps4
    go_wp2_with (fail)
    refine (great_any _ _ [⟨k, n, A, l, c⟩] _ (by simp [maxLen]) hA).mono ?_
    rintro e w' ⟨rfl, rfl⟩
    rw [HG.out]
    clear hA HG
    go_wp2_with (fail)
    generalize (((w.alloc (.cells #[.int .u8 k, .int .i64 n, .slice A l c] 33)).alloc (.cells #[.int .u8 k, .int .i64 n, .slice A l c] 33)).alloc (.cells #[.pointer none, .slice none 0 0, .int .i64 0, .int .i64 0] 45)).alloc (.cells #[.pointer none, .pointer (some ⟨w.heap.size + 1 + 1, 0, none⟩)] 24) = W at *
    have hn1 : NotMade W none := .inl rfl
    have hn2 : NotMade W (some ⟨w.heap.size + 1 + 1, 0, none⟩) := .inr ⟨_, rfl, F1.out.cell 0⟩
    have c1 : W.cell? ⟨w.heap.size, 1, none⟩ = some (.int .i64 n) := F0.out.cell 1
    have c2 : W.cell? ⟨w.heap.size, 2, none⟩ = some (.slice A l c) := F0.out.cell 2
    have d0 : W.cell? ⟨w.heap.size + 1 + 1 + 1, 0, none⟩ = some (.pointer none) := F2.out.cell 0
    have d1 : W.cell? ⟨w.heap.size + 1 + 1 + 1, 1, none⟩ = some (.pointer (some ⟨w.heap.size + 1 + 1, 0, none⟩)) := F2.out.cell 1
    clear F0 F1 F2
    go_loop [5, 6] (fun i _ => ∃ j : Nat, j ≤ 2 ∧ i = .int .i64 j) (fun i _ => 2 - (intOf i).toNat)
    case atStart => exact ⟨0, by omega, rfl⟩
    case round =>
      obtain ⟨j, hj, rfl⟩ := hrel
      match j, hj with
      | 2, _ =>
        go_wp2_with (fail)
        go_ret
        exact ⟨rfl, F3.out⟩
      | 0, _ =>
        go_wp2_with (first
          | (go_at_call 12; refine (put_no _ _ _ _ _ hn1).mono ?_; rintro e w' ⟨rfl, rfl⟩)
          | (go_at_call 19; refine (peek_no _ _ _ hn1).mono ?_; rintro e w' ⟨rfl, rfl⟩)
          | (go_at_call 15; refine (take_no _ _ _ hn1).mono ?_; rintro e w' ⟨rfl, rfl⟩)
          | (go_at_call 17; refine (skip_no _ _ _ hn1).mono ?_; rintro e w' ⟨rfl, rfl⟩)
          | (go_at_call 21; refine (len_no _ _ hn1).mono ?_; rintro e w' ⟨rfl, rfl⟩)
          | (go_at_call 22; refine (room_no _ _ hn1).mono ?_; rintro e w' ⟨rfl, rfl⟩)
          | (go_at_call 23; refine (size_no _ _ hn1).mono ?_; rintro e w' ⟨rfl, rfl⟩))
        go_round
        case rel => exact ⟨1, by omega, rfl⟩
        case measure => simp [intOf]
      | 1, _ =>
        go_wp2_with (first
          | (go_at_call 12; refine (put_no _ _ _ _ _ hn2).mono ?_; rintro e w' ⟨rfl, rfl⟩)
          | (go_at_call 19; refine (peek_no _ _ _ hn2).mono ?_; rintro e w' ⟨rfl, rfl⟩)
          | (go_at_call 15; refine (take_no _ _ _ hn2).mono ?_; rintro e w' ⟨rfl, rfl⟩)
          | (go_at_call 17; refine (skip_no _ _ _ hn2).mono ?_; rintro e w' ⟨rfl, rfl⟩)
          | (go_at_call 21; refine (len_no _ _ hn2).mono ?_; rintro e w' ⟨rfl, rfl⟩)
          | (go_at_call 22; refine (room_no _ _ hn2).mono ?_; rintro e w' ⟨rfl, rfl⟩)
          | (go_at_call 23; refine (size_no _ _ hn2).mono ?_; rintro e w' ⟨rfl, rfl⟩))
        go_round
        case rel => exact ⟨2, by omega, rfl⟩
        case measure => simp [intOf]

end Go.Proofs.Ythagggclhahikaa.nilRing
