/-
  Given for the seat's laws: the chapter's examples, as the statements' own awake runs them: it returns true. No condition but that MaxLen's cell holds some int.
-/
import Derived.Test.YtliajejgkinkjaaLine2
import Derived.Test.YtliajejgkinkjaaWord
namespace Go.Proofs.Ytliajejgkinkjaa.awake
open Go.RowKit mem reader parse num word plain
set_option linter.unusedVariables false

set_option maxHeartbeats 400000 in
theorem parses_yes (s : ByteArray) (n e : Int) (hs : s.size ≤ 1000) (h : parseF s.data.toList 1 65535 = (n, e)) (w : World) : Calls Try.prog 32 #[.string s, .int .i64 n, .int .i64 e] w (Says true w) := by
  have hp := parse_in s 1 65535 hs (by omega) (by omega) (by omega) w
  unfold Parses at hp
  rw [h] at hp
  dsimp only at hp
  have HP := Lib.hid hp
  clear hp h
  go_enter Try.func32, Try.ntmps32
  go_wp2_with fail
  refine HP.out.mono ?_
  rintro e' w' ⟨rfl, rfl⟩
  go_wp2
  go_ret
  exact ⟨rfl, rfl⟩

theorem p1 (w : World) : Calls Try.prog 32 #[.string ⟨#[56, 48]⟩, .int .i64 80, .int .i64 0] w (Says true w) := parses_yes _ _ _ (by decide) (by decide) w
theorem p2 (w : World) : Calls Try.prog 32 #[.string ⟨#[48, 56, 48]⟩, .int .i64 0, .int .i64 6] w (Says true w) := parses_yes _ _ _ (by decide) (by decide) w
theorem p3 (w : World) : Calls Try.prog 32 #[.string ⟨#[]⟩, .int .i64 0, .int .i64 6] w (Says true w) := parses_yes _ _ _ (by decide) (by decide) w
theorem p4 (w : World) : Calls Try.prog 32 #[.string ⟨#[54, 53, 53, 51, 54]⟩, .int .i64 0, .int .i64 6] w (Says true w) := parses_yes _ _ _ (by decide) (by decide) w
theorem w1 (w : World) : Calls Try.prog 7 #[.string ⟨#[97, 49]⟩] w (Says true w) := word_any _ (by decide) w
theorem w2 (w : World) : Calls Try.prog 7 #[.string ⟨#[65, 49]⟩] w (Says false w) := word_any _ (by decide) w

/-- bytes of a literal -/
theorem src_lit (w : World) (xs : List Int) (fz : Nat × Nat) (hr : ∀ x ∈ xs, 0 ≤ x ∧ x < 256) (hl : xs.length ≤ 1000) : Src (w.alloc (.cells (B8 xs).toArray 5 fz)) (fun g => g = w.heap.size) (some ⟨w.heap.size, 0, none⟩) xs.length xs.length xs :=
  ⟨rfl, Nat.le_refl _, fun e => (by cases e), by unfold maxLen; omega, hr, fun _ => ⟨w.heap.size, 0, rfl, rfl, fun j z hz => by rw [Nat.zero_add, lit_cell]; simp [B8, hz]⟩⟩

set_option maxRecDepth 100000 in
set_option maxHeartbeats 2000000 in
theorem awake_any (w : World) (hm : Max w) : Calls Try.prog 22 #[] w fun e w' => e = .returned (.bool true) ∧ Below w.heap.size w w' := by
  have kc := fun (w : World) (C : Array Value) (n c : Nat) => Lib.run_convert_bytes_const (P := Try.prog) w 25 5 C n c Try.underlying25 Try.underlying5
  have hb0 : Below w.heap.size w (w.alloc (.cells #[.int .u8 97, .int .u8 98, .int .u8 13, .int .u8 10, .int .u8 99] 5 (5, 6))) := (Below.refl _ w).alloc (Nat.le_refl _) _
  have hnew : Calls Try.prog 13 #[.slice (some ⟨w.heap.size, 0, none⟩) 5 5] (w.alloc (.cells #[.int .u8 97, .int .u8 98, .int .u8 13, .int .u8 10, .int .u8 99] 5 (5, 6))) (News [97, 98, 13, 10, 99] _) :=
    new_has (src_lit w [97, 98, 13, 10, 99] (5, 6) (by decide) (by decide)) (by decide) (hm.keep (hb0.block 0 hm.lt))
  have HN := Lib.hid hnew
  have HB0 := Lib.hid hb0
  clear hnew hb0
  go_enter Try.func22, Try.ntmps22
  go_wp2_with fail
  refine HN.out.mono ?_
  rintro e wa ⟨r, A, c, rfl, hh, hb⟩
  have hba : Below w.heap.size w wa := HB0.out.trans (hb.mono (by simp))
  have hl1 : Calls Try.prog 21 #[.pointer (some ⟨r, 0, none⟩), .int .i64 9] wa (Reads (.tuple #[.string ⟨#[97, 98]⟩, .int .i64 0]) wa _ r A 5 c [97, 98, 13, 10, 99] 4) := line_ok hh 9 (by omega) 2 (by decide)
  have HL1 := Lib.hid hl1
  have HBA := Lib.hid hba
  clear hl1 hh hb hba HN HB0
  go_wp2_with fail
  refine HL1.out.mono ?_
  rintro e wb ⟨rfl, hh, hk⟩
  have hlt := hh.head.lt
  have hr1 := hh.base.2
  have hbb : Below w.heap.size w wb := HBA.out.trans (hk.below HBA.out.size (fun k hk e => by subst e; simp at hr1; omega))
  have hl2 : Calls Try.prog 21 #[.pointer (some ⟨r, 0, none⟩), .int .i64 9] wb (Reads (.tuple #[.string ⟨#[]⟩, .int .i64 5]) wb _ r A 5 c [97, 98, 13, 10, 99] 4) := line_err hh 9 (by omega) 0 5 (by decide) (.inl rfl)
  have HL2 := Lib.hid hl2
  have HBB := Lib.hid hbb
  clear hl2 hh hk hbb HL1 HBA
  go_wp2_with fail
  refine HL2.out.mono ?_
  rintro e wc ⟨rfl, hh, hk⟩
  have hbc : Below w.heap.size w wc := HBB.out.trans (hk.below HBB.out.size (fun k hk e => by subst e; simp at hr1; omega))
  have HA := Lib.hid (at_has wc hh)
  have HBC := Lib.hid hbc
  clear hh hk hbc HL2 HBB
  go_wp2_with (first
    | (go_at_call_of 32 (Value.string ⟨#[56, 48]⟩); refine (p1 _).mono ?_; rintro e w' ⟨rfl, rfl⟩)
    | (go_at_call_of 32 (Value.string ⟨#[48, 56, 48]⟩); refine (p2 _).mono ?_; rintro e w' ⟨rfl, rfl⟩)
    | (go_at_call_of 32 (Value.string ⟨#[]⟩); refine (p3 _).mono ?_; rintro e w' ⟨rfl, rfl⟩)
    | (go_at_call_of 32 (Value.string ⟨#[54, 53, 53, 51, 54]⟩); refine (p4 _).mono ?_; rintro e w' ⟨rfl, rfl⟩)
    | (go_at_call_of 7 (Value.string ⟨#[97, 49]⟩); refine (w1 _).mono ?_; rintro e w' ⟨rfl, rfl⟩)
    | (go_at_call_of 7 (Value.string ⟨#[65, 49]⟩); refine (w2 _).mono ?_; rintro e w' ⟨rfl, rfl⟩)
    | (go_at_call 16; refine HA.out.mono ?_; rintro e w' ⟨rfl, rfl⟩))
  go_ret
  exact ⟨rfl, HBC.out⟩

end Go.Proofs.Ytliajejgkinkjaa.awake
