/-
  Given for 'Rows.RackNilSaid': a rack that nobody made, and the law's walk. No condition.
-/
import Derived.Test.YtcecdcdnjbndiaaGive1
namespace Go.Proofs.Ytcecdcdnjbndiaa.rack
open Go.RowKit mem find
set_option linter.unusedVariables false

/-- a pointer to a rack that nobody made: nil, or a block whose first cell is nil -/
def NotMade (w : World) (p : Option Addr) : Prop := p = none ∨ ∃ b, p = some ⟨b, 0, none⟩ ∧ b < w.heap.size ∧ w.cell? ⟨b, 0, none⟩ = some (.pointer none)
theorem NotMade.below {w w' : World} {p : Option Addr} (h : NotMade w p) (hb : Below w.heap.size w w') : NotMade w' p := by
  rcases h with h | ⟨b, h1, h2, h3⟩
  · exact .inl h
  · exact .inr ⟨b, h1, Nat.lt_of_lt_of_le h2 hb.size, (hb.cell (p := ⟨b, 0, none⟩) h2).trans h3⟩
theorem made_no {w : World} {p : Option Addr} (h : NotMade w p) : Calls Try.prog 26 #[.pointer p] w fun e w' => e = .returned (.bool false) ∧ w = w' := by
  rcases h with rfl | ⟨b, rfl, _, hc⟩
  · exact made_nil w
  · exact made_not hc

theorem give_no {w : World} {p : Option Addr} (h : NotMade w p) (v : Int) : Calls Try.prog 9 #[.pointer p, .int .i64 v] w fun e w' => e = .returned (.tuple #[.int .i64 0, .int .i64 1]) ∧ Below w.heap.size w w' :=
  give_nil (fun w' hb => made_no (h.below hb)) v

set_option maxHeartbeats 400000 in
theorem get_no {w : World} {p : Option Addr} (h : NotMade w p) (id : Int) : Calls Try.prog 17 #[.pointer p, .int .i64 id] w fun e w' => e = .returned (.tuple #[.int .i64 0, .int .i64 1]) ∧ w = w' := by
  have HP := Lib.hid (place_nil (made_no h) id)
  clear h
  go_enter Try.func17, Try.ntmps17
  go_wp2_with (go_at_call 32; refine HP.out.mono ?_; rintro e w' ⟨rfl, rfl⟩)
  go_ret2
  exact ⟨rfl, rfl⟩

set_option maxHeartbeats 400000 in
theorem set_no {w : World} {p : Option Addr} (h : NotMade w p) (id v : Int) : Calls Try.prog 13 #[.pointer p, .int .i64 id, .int .i64 v] w fun e w' => e = .returned (.int .i64 1) ∧ w = w' := by
  have HP := Lib.hid (place_nil (made_no h) id)
  clear h
  go_enter Try.func13, Try.ntmps13
  go_wp2_with (go_at_call 32; refine HP.out.mono ?_; rintro e w' ⟨rfl, rfl⟩)
  go_ret
  exact ⟨rfl, rfl⟩

set_option maxHeartbeats 400000 in
theorem drop_no {w : World} {p : Option Addr} (h : NotMade w p) (id : Int) : Calls Try.prog 15 #[.pointer p, .int .i64 id] w fun e w' => e = .returned (.int .i64 1) ∧ w = w' := by
  have HP := Lib.hid (place_nil (made_no h) id)
  clear h
  go_enter Try.func15, Try.ntmps15
  go_wp2_with (go_at_call 32; refine HP.out.mono ?_; rintro e w' ⟨rfl, rfl⟩)
  go_ret
  exact ⟨rfl, rfl⟩

set_option maxHeartbeats 400000 in
theorem hold_no {w : World} {p : Option Addr} (h : NotMade w p) (id v : Int) : Calls Try.prog 11 #[.pointer p, .int .i64 id, .int .i64 v] w fun e w' => e = .returned (.int .i64 1) ∧ w = w' := by
  have HM := Lib.hid (made_no h)
  clear h
  go_enter Try.func11, Try.ntmps11
  go_wp2_with (go_at_call 26; refine HM.out.mono ?_; rintro e w' ⟨rfl, rfl⟩)
  go_ret
  exact ⟨rfl, rfl⟩

set_option maxHeartbeats 400000 in
theorem len_no {w : World} {p : Option Addr} (h : NotMade w p) : Calls Try.prog 20 #[.pointer p] w fun e w' => e = .returned (.int .i64 0) ∧ w = w' := by
  have HM := Lib.hid (made_no h)
  clear h
  go_enter Try.func20, Try.ntmps20
  go_wp2_with (go_at_call 26; refine HM.out.mono ?_; rintro e w' ⟨rfl, rfl⟩)
  go_ret
  exact ⟨rfl, rfl⟩

set_option maxHeartbeats 400000 in
theorem ids_no {w : World} {p : Option Addr} (h : NotMade w p) : Calls Try.prog 19 #[.pointer p] w fun e w' => e = .returned (.slice none 0 0) ∧ w = w' := by
  have HM := Lib.hid (made_no h)
  clear h
  go_enter Try.func19, Try.ntmps19
  go_wp2_with (go_at_call 26; refine HM.out.mono ?_; rintro e w' ⟨rfl, rfl⟩)
  go_ret
  exact ⟨rfl, rfl⟩

/-- the world where the loop begins -/
abbrev atLoop (w : World) : World :=
  (w.alloc (.cells #[.pointer none, .int .i64 0, .slice none 0 0, .int .i64 0, .int .i64 0] 52)).alloc (.cells #[.pointer none, .pointer (some ⟨w.heap.size, 0, none⟩)] 23)
theorem atLoop_facts (w : World) : Lies (atLoop w) w.heap.size 52 #[.pointer none, .int .i64 0, .slice none 0 0, .int .i64 0, .int .i64 0] ∧ Lies (atLoop w) (w.heap.size + 1) 23 #[.pointer none, .pointer (some ⟨w.heap.size, 0, none⟩)] ∧ Below w.heap.size w (atLoop w) := by
  have h0 := Lies.new w 52 #[.pointer none, .int .i64 0, .slice none 0 0, .int .i64 0, .int .i64 0]
  have h1 := Lies.new (w.alloc (.cells #[.pointer none, .int .i64 0, .slice none 0 0, .int .i64 0, .int .i64 0] 52)) 23 #[.pointer none, .pointer (some ⟨w.heap.size, 0, none⟩)]
  rw [World.size_alloc] at h1
  exact ⟨h0.alloc _, h1, ((Below.refl _ _).alloc (Nat.le_refl _) _).alloc (by simp) _⟩

set_option maxRecDepth 100000 in
set_option maxHeartbeats 2000000 in
theorem nil_walk (id v : Int) (w : World) : Calls Try.prog 4 #[.int .i64 id, .int .i64 v] w fun e w' => e = .returned (.bool true) ∧ Below w.heap.size w w' := by
  obtain ⟨f1, f2, f3⟩ := atLoop_facts w
  have F1 := Lib.hid f1
  have F2 := Lib.hid f2
  have F3 := Lib.hid f3
  clear f1 f2 f3
  go_enter Try.func4, Try.ntmps4
  go_wp2_with fail
  generalize hW : atLoop w = W at *
  have hn1 : NotMade W none := .inl rfl
  have hn2 : NotMade W (some ⟨w.heap.size, 0, none⟩) := .inr ⟨_, rfl, F1.out.lt, F1.out.cell 0⟩
  have hlt := F2.out.lt
  have d0 : W.cell? ⟨w.heap.size + 1, 0, none⟩ = some (.pointer none) := F2.out.cell 0
  have d1 : W.cell? ⟨w.heap.size + 1, 1, none⟩ = some (.pointer (some ⟨w.heap.size, 0, none⟩)) := F2.out.cell 1
  clear F1 F2
  have D0 := Lib.hid d0
  have D1 := Lib.hid d1
  have N1 := Lib.hid hn1
  have N2 := Lib.hid hn2
  clear d0 d1 hn1 hn2
  go_loopw [7] (fun s7 wr => ∃ j : Nat, j ≤ 2 ∧ s7 = .int .i64 j ∧ Hid (Below W.heap.size W wr)) (fun s7 _ => 2 - (intOf s7).toNat)
  case atStart => exact ⟨0, by omega, rfl, by rw [← hW]; exact Below.refl _ _⟩
  case round =>
    obtain ⟨j, hj, rfl, hbel⟩ := hrel
    match j, hj with
    | 2, _ =>
      go_wp2_with fail
      go_ret
      exact ⟨rfl, F3.out.trans (hbel.out.mono F3.out.size)⟩
    | 0, _ =>
      have e0 : wr.cell? ⟨w.heap.size + 1, 0, none⟩ = some (.pointer none) := (hbel.out.cell (p := ⟨w.heap.size + 1, 0, none⟩) hlt).trans D0.out
      go_wp2_with fail
      refine (give_no (N1.out.below hbel.out) v).mono ?_
      rintro e w1 ⟨rfl, hb1⟩
      have hb := hbel.out.trans (hb1.mono hbel.out.size)
      have hn := N1.out.below hb
      have HB := Lib.hid hb
      clear hb hb1 e0 hbel
      go_wp2_with (first
        | (go_at_call 17; refine (get_no hn _).mono ?_; rintro e w' ⟨rfl, rfl⟩)
        | (go_at_call 11; refine (hold_no hn _ _).mono ?_; rintro e w' ⟨rfl, rfl⟩)
        | (go_at_call 13; refine (set_no hn _ _).mono ?_; rintro e w' ⟨rfl, rfl⟩)
        | (go_at_call 15; refine (drop_no hn _).mono ?_; rintro e w' ⟨rfl, rfl⟩)
        | (go_at_call 20; refine (len_no hn).mono ?_; rintro e w' ⟨rfl, rfl⟩)
        | (go_at_call 19; refine (ids_no hn).mono ?_; rintro e w' ⟨rfl, rfl⟩))
      go_roundw
      case rel => exact ⟨1, by omega, rfl, HB⟩
      case measure => simp [intOf]
    | 1, _ =>
      have e0 : wr.cell? ⟨w.heap.size + 1, 1, none⟩ = some (.pointer (some ⟨w.heap.size, 0, none⟩)) := (hbel.out.cell (p := ⟨w.heap.size + 1, 1, none⟩) hlt).trans D1.out
      go_wp2_with fail
      refine (give_no (N2.out.below hbel.out) v).mono ?_
      rintro e w1 ⟨rfl, hb1⟩
      have hb := hbel.out.trans (hb1.mono hbel.out.size)
      have hn := N2.out.below hb
      have HB := Lib.hid hb
      clear hb hb1 e0 hbel
      go_wp2_with (first
        | (go_at_call 17; refine (get_no hn _).mono ?_; rintro e w' ⟨rfl, rfl⟩)
        | (go_at_call 11; refine (hold_no hn _ _).mono ?_; rintro e w' ⟨rfl, rfl⟩)
        | (go_at_call 13; refine (set_no hn _ _).mono ?_; rintro e w' ⟨rfl, rfl⟩)
        | (go_at_call 15; refine (drop_no hn _).mono ?_; rintro e w' ⟨rfl, rfl⟩)
        | (go_at_call 20; refine (len_no hn).mono ?_; rintro e w' ⟨rfl, rfl⟩)
        | (go_at_call 19; refine (ids_no hn).mono ?_; rintro e w' ⟨rfl, rfl⟩))
      go_roundw
      case rel => exact ⟨2, by omega, rfl, HB⟩
      case measure => simp [intOf]

end Go.Proofs.Ytcecdcdnjbndiaa.rack
