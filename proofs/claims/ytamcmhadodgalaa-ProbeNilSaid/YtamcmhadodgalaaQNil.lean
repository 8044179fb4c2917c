/-
  Given for 'Rows.ProbeNilSaid': the law's walk: it returns true at every input, and turns nothing that was there. No condition.
-/
import Derived.Test.YtamcmhadodgalaaQOps
namespace Go.Proofs.Ytamcmhadodgalaa.pl
open Go.RowKit mem find pb
set_option linter.unusedVariables false

/-- the world where the loop begins -/
abbrev atLoop (w : World) : World :=
  (w.alloc (.cells #[.pointer none, .int .i64 0, .slice none 0 0] 42)).alloc (.cells #[.pointer none, .pointer (some ⟨w.heap.size, 0, none⟩)] 24)
theorem atLoop_facts (w : World) : Lies (atLoop w) w.heap.size 42 #[.pointer none, .int .i64 0, .slice none 0 0] ∧ Lies (atLoop w) (w.heap.size + 1) 24 #[.pointer none, .pointer (some ⟨w.heap.size, 0, none⟩)] ∧ Below w.heap.size w (atLoop w) := by
  have h0 := Lies.new w 42 #[.pointer none, .int .i64 0, .slice none 0 0]
  have h1 := Lies.new (w.alloc (.cells #[.pointer none, .int .i64 0, .slice none 0 0] 42)) 24 #[.pointer none, .pointer (some ⟨w.heap.size, 0, none⟩)]
  rw [World.size_alloc] at h1
  exact ⟨h0.alloc _, h1, ((Below.refl _ _).alloc (Nat.le_refl _) _).alloc (by simp) _⟩

set_option maxRecDepth 100000 in
set_option maxHeartbeats 1000000 in
theorem nil_long (n : Int) (A : Option Addr) (len c : Nat) (w : World) (hm : len ≤ maxLen) (h : 100 < len) :
    Calls Try.prog 4 #[.int .i64 n, .slice A len c] w fun e w' => e = .returned (.bool true) ∧ Below w.heap.size w w' := by
  unfold maxLen at hm
  go_enter Try.func4, Try.ntmps4
  go_wp2_with fail
  go_ret
  exact ⟨rfl, Below.refl _ _⟩

set_option maxRecDepth 100000 in
set_option maxHeartbeats 2000000 in
theorem nil_walk (n : Int) (A : Option Addr) (len c : Nat) (w : World) (hm : len ≤ maxLen) :
    Calls Try.prog 4 #[.int .i64 n, .slice A len c] w fun e w' => e = .returned (.bool true) ∧ Below w.heap.size w w' := by
  by_cases h100 : 100 < len
  · exact nil_long n A len c w hm h100
  have h101 : len ≤ 100 := by omega
  clear hm
  obtain ⟨f1, f2, f3⟩ := atLoop_facts w
  have F1 := Lib.hid f1
  have F2 := Lib.hid f2
  have F3 := Lib.hid f3
  clear f1 f2 f3 h100
  go_enter Try.func4, Try.ntmps4
  go_wp2_with fail
  generalize hW : atLoop w = W at *
  have hn1 : NotMade W none := .inl rfl
  have hn2 : NotMade W (some ⟨w.heap.size, 0, none⟩) := .inr ⟨_, rfl, F1.out.lt, F1.out.cell 0⟩
  have hlt := F2.out.lt
  have d0 : W.cell? ⟨w.heap.size + 1, 0, none⟩ = some (.pointer none) := F2.out.cell 0
  have d1 : W.cell? ⟨w.heap.size + 1, 1, none⟩ = some (.pointer (some ⟨w.heap.size, 0, none⟩)) := F2.out.cell 1
  clear F1 F2
  have D0 := Lib.hid d0
  have D1 := Lib.hid d1
  have N1 := Lib.hid hn1
  have N2 := Lib.hid hn2
  clear d0 d1 hn1 hn2
  go_loopw [7] (fun s7 wr => ∃ j : Nat, j ≤ 2 ∧ s7 = .int .i64 j ∧ Hid (Below W.heap.size W wr)) (fun s7 _ => 2 - (intOf s7).toNat)
  case atStart => exact ⟨0, by omega, rfl, by rw [← hW]; exact Below.refl _ _⟩
  case round =>
    obtain ⟨j, hj, rfl, hbel⟩ := hrel
    match j, hj with
    | 2, _ =>
      go_wp2_with fail
      go_ret
      exact ⟨rfl, F3.out.trans (hbel.out.mono F3.out.size)⟩
    | 0, _ =>
      have e0 : wr.cell? ⟨w.heap.size + 1, 0, none⟩ = some (.pointer none) := (hbel.out.cell (p := ⟨w.heap.size + 1, 0, none⟩) hlt).trans D0.out
      have hn := N1.out.below hbel.out
      go_wp2_with (first
        | (go_at_call 10; refine (add_nil hn _).mono ?_; rintro e w' ⟨rfl, rfl⟩)
        | (go_at_call 12; refine (drop_nil hn _).mono ?_; rintro e w' ⟨rfl, rfl⟩)
        | (go_at_call 14; refine (every_nil hn _).mono ?_; rintro e w' ⟨rfl, rfl⟩))
      refine (round_nil hn _ _ _ _).mono ?_
      rintro e w1 ⟨rfl, hb1⟩
      have hb := hbel.out.trans (hb1.mono hbel.out.size)
      have hn1 := N1.out.below hb
      have HB := Lib.hid hb
      clear hb hb1 e0 hbel hn
      go_wp2_with (go_at_call 19; refine (keys_nil hn1).mono ?_; rintro e w' ⟨rfl, rfl⟩)
      go_roundw
      case rel => exact ⟨1, by omega, rfl, HB⟩
      case measure => simp [intOf]
    | 1, _ =>
      have e0 : wr.cell? ⟨w.heap.size + 1, 1, none⟩ = some (.pointer (some ⟨w.heap.size, 0, none⟩)) := (hbel.out.cell (p := ⟨w.heap.size + 1, 1, none⟩) hlt).trans D1.out
      have hn := N2.out.below hbel.out
      go_wp2_with (first
        | (go_at_call 10; refine (add_nil hn _).mono ?_; rintro e w' ⟨rfl, rfl⟩)
        | (go_at_call 12; refine (drop_nil hn _).mono ?_; rintro e w' ⟨rfl, rfl⟩)
        | (go_at_call 14; refine (every_nil hn _).mono ?_; rintro e w' ⟨rfl, rfl⟩))
      refine (round_nil hn _ _ _ _).mono ?_
      rintro e w1 ⟨rfl, hb1⟩
      have hb := hbel.out.trans (hb1.mono hbel.out.size)
      have hn1 := N2.out.below hb
      have HB := Lib.hid hb
      clear hb hb1 e0 hbel hn
      go_wp2_with (go_at_call 19; refine (keys_nil hn1).mono ?_; rintro e w' ⟨rfl, rfl⟩)
      go_roundw
      case rel => exact ⟨2, by omega, rfl, HB⟩
      case measure => simp [intOf]
end Go.Proofs.Ytamcmhadodgalaa.pl
