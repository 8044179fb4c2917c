/-
  Given for the seat's laws: the rack in memory, and the contracts of its small functions: within, made, full, find, place, add, remove. No condition but those of the theorems.
-/
import Derived.Test.YtcecdcdnjbndiaaLists
import Derived.LaidEqlPtr
namespace Go.Proofs.Ytcecdcdnjbndiaa.rack
open Go.RowKit mem find
set_option linter.unusedVariables false

/-- the rack's head -/
abbrev headCs (r N : Nat) (A : Option Addr) (n c : Nat) (nx st : Int) : Array Value := #[.pointer (some ⟨r, 0, none⟩), .int .i64 (N : Int), .slice A n c, .int .i64 nx, .int .i64 st]

/-- a rack: its block, its size, its next own id, its step, its rows; S: the blocks that may be its own -/
structure Rk (w : World) (S : Nat → Prop) (r N : Nat) (nx st : Int) (R : List (Int × Int)) : Prop where
  ex : ∃ A c, Lies w r 52 (headCs r N A R.length c nx st) ∧ RowsAt w A c R ∧ ∀ g, rowOf A = some g → S g
  own : S r
  sorted : Sorted R
  len : R.length ≤ N
  size : N ≤ 64

theorem own_apart {w : World} {A : Option Addr} {c : Nat} {l : List (Int × Int)} (h : RowsAt w A c l) {g g' : Nat} {t : TypeId} {cs : Array Value} (hg : rowOf A = some g) (hl : Lies w g' t cs) (hne : t ≠ 69) : g ≠ g' := by
  rcases h.2 with ⟨he, h0⟩ | ⟨g1, cap, cur, he, hb, hgg, _⟩
  · simp only [Value.slice.injEq] at he
    obtain ⟨rfl, _, rfl⟩ := he
    simp [rowOf, Value.ownBlock] at hg
  · simp only [Value.slice.injEq] at he
    obtain ⟨rfl, _, rfl⟩ := he
    simp [rowOf, Value.ownBlock] at hg
    subst hg
    rintro rfl
    unfold Lies at hl
    rw [hgg] at hl
    simp at hl
    exact hne hl.2.symm
theorem own_lt {w : World} {A : Option Addr} {c : Nat} {l : List (Int × Int)} (h : RowsAt w A c l) {g : Nat} (hg : rowOf A = some g) : g < w.heap.size := (h.lt g (by rw [rowOf_eq]; exact hg)).2

theorem RowsAt.keep {w w' : World} {B : Nat} {S : Nat → Prop} {A : Option Addr} {c : Nat} {l : List (Int × Int)} (h : RowsAt w A c l) (hk : Keep B S w w') (hB : w.heap.size ≤ B) (hn : ∀ g, rowOf A = some g → ¬ S g) : RowsAt w' A c l :=
  RowsAt.of_same h (fun g e => by rw [rowOf_eq] at e; exact hk.block g (Nat.lt_of_lt_of_le (own_lt h e) hB) (hn g e))

section
variable {w w' : World} {S S' T : Nat → Prop} {r N : Nat} {nx st : Int} {R : List (Int × Int)}
theorem Rk.lt (h : Rk w S r N nx st R) : r < w.heap.size := by obtain ⟨A, c, hl, _⟩ := h.ex; exact hl.lt
theorem Rk.mono (h : Rk w S r N nx st R) (hs : ∀ g, S g → S' g) : Rk w S' r N nx st R := by
  obtain ⟨A, c, h1, h2, h3⟩ := h.ex
  exact ⟨⟨A, c, h1, h2, fun g e => hs g (h3 g e)⟩, hs r h.own, h.sorted, h.len, h.size⟩
theorem Rk.bounded (h : Rk w S r N nx st R) : Rk w (fun g => S g ∧ g < w.heap.size) r N nx st R := by
  obtain ⟨A, c, h1, h2, h3⟩ := h.ex
  exact ⟨⟨A, c, h1, h2, fun g e => ⟨h3 g e, own_lt h2 e⟩⟩, ⟨h.own, h.lt⟩, h.sorted, h.len, h.size⟩
theorem Rk.keep (h : Rk w S r N nx st R) (hk : Keep w.heap.size T w w') (hd : ∀ g, g < w.heap.size → S g → ¬ T g) : Rk w' S r N nx st R := by
  obtain ⟨A, c, h1, h2, h3⟩ := h.ex
  exact ⟨⟨A, c, h1.keep hk h1.lt (hd _ h1.lt h.own), RowsAt.keep h2 hk (Nat.le_refl _) (fun g e => hd g (own_lt h2 e) (h3 g e)), h3⟩, h.own, h.sorted, h.len, h.size⟩
theorem Rk.below (h : Rk w S r N nx st R) (hb : Below w.heap.size w w') : Rk w' S r N nx st R := h.keep (Keep.of_below hb (fun _ => False)) (fun _ _ _ hf => hf)
end

set_option maxHeartbeats 400000 in
theorem within_yes (n m : Int) (w : World) (h1 : 1 ≤ n) (h2 : n ≤ m) : Calls Try.prog 25 #[.int .i64 n, .int .i64 m] w fun e w' => e = .returned (.bool true) ∧ w = w' := by
  go_enter Try.func25, Try.ntmps25
  go_wp2
  go_ret
  exact ⟨rfl, rfl⟩

set_option maxHeartbeats 400000 in
theorem within_no (n m : Int) (w : World) (h : n < 1 ∨ m < n) : Calls Try.prog 25 #[.int .i64 n, .int .i64 m] w fun e w' => e = .returned (.bool false) ∧ w = w' := by
  by_cases h1 : n < 1
  · clear h
    go_enter Try.func25, Try.ntmps25
    go_wp2
    go_ret
    exact ⟨rfl, rfl⟩
  · have h2 : decide (n ≤ m) = false := by simp; omega
    clear h
    go_enter Try.func25, Try.ntmps25
    go_wp2
    go_ret
    exact ⟨rfl, rfl⟩

theorem run_eql_nil_some (w : World) (b : Nat) : (binOp .eql 23 (.pointer none) (.pointer (some ⟨b, 0, none⟩))).run Try.prog w = .ok (.bool false) w := by
  have h : ∀ d : Nat, (Op.equalIn (d + 1) 23 (.pointer none) (.pointer (some ⟨b, 0, none⟩))).run Try.prog w = .ok false w := fun d => by
    simp [Op.equalIn, run_underlying Try.underlying23]
  simp only [binOp]
  simp [Op.equal, Op.maxDepth, h 9999]

theorem infoRack' : (Try.prog.info? 52).map (fun _ => ()) = some () := by kernel_rfl
theorem infoRack : ∃ j, Try.prog.info? 52 = some j := by
  obtain ⟨j, hj, _⟩ := Option.map_eq_some_iff.1 infoRack'
  exact ⟨j, hj⟩
theorem run_eql_self (w : World) (b : Nat) : (binOp .eql 23 (.pointer (some ⟨b, 0, none⟩)) (.pointer (some ⟨b, 0, none⟩))).run Try.prog w = .ok (.bool true) w := by
  obtain ⟨j, hj⟩ := infoRack
  exact run_eql_ptr_same w _ Try.underlying23 hj

set_option maxHeartbeats 400000 in
theorem made_nil (w : World) : Calls Try.prog 26 #[.pointer none] w fun e w' => e = .returned (.bool false) ∧ w = w' := by
  go_enter Try.func26, Try.ntmps26
  go_wp2
  go_ret
  exact ⟨rfl, rfl⟩

set_option maxHeartbeats 400000 in
theorem made_not {w : World} {r : Nat} (hc : w.cell? ⟨r, 0, none⟩ = some (.pointer none)) : Calls Try.prog 26 #[.pointer (some ⟨r, 0, none⟩)] w fun e w' => e = .returned (.bool false) ∧ w = w' := by
  have he := run_eql_nil_some w r
  go_enter Try.func26, Try.ntmps26
  go_wp2
  go_ret
  exact ⟨rfl, rfl⟩

set_option maxHeartbeats 400000 in
theorem made_at {w : World} {r : Nat} (hc : w.cell? ⟨r, 0, none⟩ = some (.pointer (some ⟨r, 0, none⟩))) : Calls Try.prog 26 #[.pointer (some ⟨r, 0, none⟩)] w fun e w' => e = .returned (.bool true) ∧ w = w' := by
  have he := run_eql_self w r
  go_enter Try.func26, Try.ntmps26
  go_wp2
  go_ret
  exact ⟨rfl, rfl⟩

theorem made_yes {w : World} {S : Nat → Prop} {r N : Nat} {nx st : Int} {R : List (Int × Int)} (h : Rk w S r N nx st R) : Calls Try.prog 26 #[.pointer (some ⟨r, 0, none⟩)] w fun e w' => e = .returned (.bool true) ∧ w = w' := by
  obtain ⟨A, c, h1, _⟩ := h.ex
  exact made_at (h1.cell 0)

set_option maxHeartbeats 400000 in
theorem full_yes {w : World} {S : Nat → Prop} {r N : Nat} {nx st : Int} {R : List (Int × Int)} (h : Rk w S r N nx st R) (hf : R.length = N) : Calls Try.prog 27 #[.pointer (some ⟨r, 1, none⟩)] w fun e w' => e = .returned (.bool true) ∧ Still w w' := by
  obtain ⟨A, c, h1, _⟩ := h.ex
  have c1 := h1.cell 1
  have c2 := h1.cell 2
  have hs := h.size
  rw [hf] at c2
  clear h1 h hf
  simp at c1 c2
  go_enter Try.func27, Try.ntmps27
  go_wp2
  go_quiet (fail)
  go_wp2
  go_ret
  exact ⟨rfl, ⟨_, rfl⟩⟩

set_option maxHeartbeats 400000 in
theorem full_no {w : World} {S : Nat → Prop} {r N : Nat} {nx st : Int} {R : List (Int × Int)} (h : Rk w S r N nx st R) (hf : R.length < N) : Calls Try.prog 27 #[.pointer (some ⟨r, 1, none⟩)] w fun e w' => e = .returned (.bool false) ∧ Still w w' := by
  obtain ⟨A, c, h1, _⟩ := h.ex
  have c1 := h1.cell 1
  have c2 := h1.cell 2
  have hs := h.size
  generalize R.length = n at *
  clear h1 h
  simp at c1 c2
  have hd : decide ((N : Int) ≤ (n : Int)) = false := by simp; omega
  have hd2 : decide (N ≤ n) = false := by simp; omega
  go_enter Try.func27, Try.ntmps27
  go_wp2
  go_quiet (fail)
  go_wp2
  go_ret
  exact ⟨rfl, ⟨_, rfl⟩⟩

theorem find_in {w : World} {S : Nat → Prop} {r N : Nat} {nx st : Int} {R : List (Int × Int)} (h : Rk w S r N nx st R) {k : Nat} {id v : Int} (hk : R[k]? = some (id, v)) :
    Calls Try.prog 31 #[.pointer (some ⟨r, 1, none⟩), .int .i64 id] w fun e w' => e = .returned (.tuple #[.int .i64 (k : Int), .bool true]) ∧ Below w.heap.size w w' := by
  obtain ⟨A, c, h1, h2, _⟩ := h.ex
  refine (find_any (h1.cell 2) h2 h.sorted (by have := h.len; have := h.size; omega) id).mono ?_
  rintro e w' ⟨j, u, rfl, hf, hb⟩
  obtain ⟨rfl, rfl⟩ := hf.in_ h.sorted hk
  exact ⟨rfl, hb⟩

structure FindOut (w : World) (R : List (Int × Int)) (id : Int) (e : Ending) (w' : World) : Prop where
  ex : ∃ k : Nat, e = .returned (.tuple #[.int .i64 (k : Int), .bool false]) ∧ Finds R id k false ∧ Below w.heap.size w w'

theorem find_out {w : World} {S : Nat → Prop} {r N : Nat} {nx st : Int} {R : List (Int × Int)} (h : Rk w S r N nx st R) {id : Int} (hk : ¬ Has R id) :
    Calls Try.prog 31 #[.pointer (some ⟨r, 1, none⟩), .int .i64 id] w (FindOut w R id) := by
  obtain ⟨A, c, h1, h2, _⟩ := h.ex
  refine (find_any (h1.cell 2) h2 h.sorted (by have := h.len; have := h.size; omega) id).mono ?_
  rintro e w' ⟨j, u, rfl, hf, hb⟩
  obtain rfl := hf.out hk
  exact ⟨j, rfl, hf, hb⟩

set_option maxHeartbeats 400000 in
theorem place_in {w : World} {S : Nat → Prop} {r N : Nat} {nx st : Int} {R : List (Int × Int)} (h : Rk w S r N nx st R) {k : Nat} {id v : Int} (hk : R[k]? = some (id, v)) :
    Calls Try.prog 32 #[.pointer (some ⟨r, 0, none⟩), .int .i64 id] w fun e w' => e = .returned (.tuple #[.int .i64 (k : Int), .int .i64 0]) ∧ Below w.heap.size w w' := by
  have HM := Lib.hid (made_yes h)
  have HF := Lib.hid (find_in h hk)
  clear h hk
  go_enter Try.func32, Try.ntmps32
  go_wp2_with (first
    | (go_at_call 26; refine HM.out.mono ?_; rintro e w' ⟨rfl, rfl⟩)
    | (go_at_call 31; refine HF.out.mono ?_; rintro e w' ⟨rfl, hb⟩))
  go_ret2
  exact ⟨rfl, hb⟩

set_option maxHeartbeats 400000 in
theorem place_out {w : World} {S : Nat → Prop} {r N : Nat} {nx st : Int} {R : List (Int × Int)} (h : Rk w S r N nx st R) {id : Int} (hk : ¬ Has R id) :
    Calls Try.prog 32 #[.pointer (some ⟨r, 0, none⟩), .int .i64 id] w fun e w' => e = .returned (.tuple #[.int .i64 0, .int .i64 30]) ∧ Below w.heap.size w w' := by
  have HM := Lib.hid (made_yes h)
  have HF := Lib.hid (find_out h hk)
  clear h hk
  go_enter Try.func32, Try.ntmps32
  go_wp2_with (first
    | (go_at_call 26; refine HM.out.mono ?_; rintro e w' ⟨rfl, rfl⟩)
    | (go_at_call 31; refine HF.out.mono ?_; rintro e w' ⟨k, rfl, _, hb⟩))
  go_ret2
  exact ⟨rfl, hb⟩

set_option maxHeartbeats 400000 in
theorem place_nil {w : World} {p : Option Addr} (hm : Calls Try.prog 26 #[.pointer p] w fun e w' => e = .returned (.bool false) ∧ w = w') (id : Int) :
    Calls Try.prog 32 #[.pointer p, .int .i64 id] w fun e w' => e = .returned (.tuple #[.int .i64 0, .int .i64 1]) ∧ w = w' := by
  have HM := Lib.hid hm
  clear hm
  go_enter Try.func32, Try.ntmps32
  go_wp2_with (go_at_call 26; refine HM.out.mono ?_; rintro e w' ⟨rfl, rfl⟩)
  go_ret2
  exact ⟨rfl, rfl⟩

end Go.Proofs.Ytcecdcdnjbndiaa.rack
