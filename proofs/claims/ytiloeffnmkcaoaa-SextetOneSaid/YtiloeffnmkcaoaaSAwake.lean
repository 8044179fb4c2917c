/-
  Given for the seat's laws: the chapter's examples. No condition but those of the theorems.
-/
import Derived.Test.YtiloeffnmkcaoaaSEncodes
import Derived.Lib.SlBytesConst
namespace Go.Proofs.Ytiloeffnmkcaoaa.sx
open Go.RowKit mem
set_option linter.unusedVariables false

set_option maxHeartbeats 4000000 in
theorem none_any {W : World} {g n : Nat} {l : List Str} (hl : l.length = n) (hn : n ≤ 100) (hg : g < W.heap.size) (hc : ∀ (i : Nat) (s : Str), l[i]? = some s → W.cell? ⟨g, i, none⟩ = some (.string (S s))) (hi : ∀ s ∈ l, Is s none ∧ s.length ≤ 100) :
    Calls Try.prog 25 #[.slice (some ⟨g, 0, none⟩) n n] W (True_ W) := by
  have HL := Lib.hid hl
  have HC := Lib.hid hc
  have HI := Lib.hid hi
  clear hl hc hi
  go_enter Try.func25, Try.ntmps25
  go_wp2
  go_loopw [3] (fun s3 wr => ∃ i : Nat, i ≤ n ∧ s3 = .int .i64 (i : Int) ∧ Hid (Below W.heap.size W wr)) (fun s3 _ => n - (intOf s3).toNat)
  case atStart => exact ⟨0, Nat.zero_le _, rfl, Lib.hid (Below.refl _ _)⟩
  case round =>
    obtain ⟨i, hi, rfl, HB⟩ := hrel
    by_cases hlt : i < n
    · obtain ⟨s, hs⟩ : ∃ s, l[i]? = some s := ⟨l[i]'(by rw [HL.out]; exact hlt), List.getElem?_eq_getElem _⟩
      have c0 : wr.cell? ⟨g, i, none⟩ = some (.string (S s)) := (HB.out.cell (p := ⟨g, i, none⟩) hg).trans (HC.out i s hs)
      obtain ⟨h1, h2⟩ := HI.out s (List.mem_of_getElem? hs)
      have HD := Lib.hid (decode_any s (by omega) wr)
      have H1 := Lib.hid h1
      clear h1 h2 hs
      go_wp2_with fail
      refine HD.out.mono ?_
      rintro e w3 (⟨b, A, c, hb, rfl, hm⟩ | ⟨_, rfl, hb⟩)
      · exact absurd (H1.out.uniq hb) (by simp)
      · have HB3 := Lib.hid (HB.out.trans (hb.mono HB.out.size))
        clear hb
        go_wp2_with fail
        go_roundw
        case rel => exact ⟨i + 1, by omega, by go_num, HB3⟩
        case measure => simp [intOf]; omega
    · go_wp2
      go_ret
      exact ⟨rfl, HB.out⟩

/-- the encoding of a literal -/
theorem enc_lit (w : World) (l : Str) (n : Nat) (fz : Nat × Nat) (t : ByteArray) (hn : l.length = n) (hl : n ≤ 100) (ht : S (enc l) = t) :
    Calls Try.prog 8 #[.slice (some ⟨w.heap.size, 0, none⟩) n n] (w.alloc (.cells (B8 (ints l)).toArray 5 fz)) fun e w' => e = .returned (.string t) ∧ Below w.heap.size w w' := by
  subst hn ht
  have h1 := src_lit w (ints l) fz (ints_rng l) (by rw [ints_len]; omega)
  rw [ints_len] at h1
  have h2 : Spell (w.alloc (.cells (B8 (ints l)).toArray 5 fz)) (fun g => g < (w.alloc (.cells (B8 (ints l)).toArray 5 fz)).heap.size) (some ⟨w.heap.size, 0, none⟩) l.length l.length l :=
    h1.weak fun g hg => by subst hg; simp
  refine (encode_any h2 (by omega)).mono ?_
  rintro e w' ⟨rfl, hb⟩
  exact ⟨rfl, ((Below.refl _ _).alloc (Nat.le_refl _) _).trans (hb.mono (by simp))⟩
theorem enc_nil (w : World) : Calls Try.prog 8 #[.slice none 0 0] w fun e w' => e = .returned (.string ⟨#[]⟩) ∧ Below w.heap.size w w' :=
  encode_any (n := 0) (c := 0) (b := []) (Src.nil w _) (by omega)

theorem bad1 : Is [90, 103] none := is_odd (by decide)
theorem bad2 : Is [90, 104, 61, 61] none := is_left (r := 1) (l := [102]) (by decide +kernel) (by decide)
theorem bad3 : Is [90, 103, 61] none := is_odd (by decide)
theorem bad4 : Is [61] none := is_odd (by decide)
theorem bad5 : Is [90, 109, 57, 118, 32] none := is_odd (by decide)
theorem none_lit (w : World) (fz : Nat × Nat) : Calls Try.prog 25 #[.slice (some ⟨w.heap.size, 0, none⟩) 5 5] (w.alloc (.cells #[.string ⟨#[90, 103]⟩, .string ⟨#[90, 104, 61, 61]⟩, .string ⟨#[90, 103, 61]⟩, .string ⟨#[61]⟩, .string ⟨#[90, 109, 57, 118, 32]⟩] 9 fz)) fun e w' => e = .returned (.bool true) ∧ Below w.heap.size w w' := by
  refine (none_any (n := 5) (l := [[90, 103], [90, 104, 61, 61], [90, 103, 61], [61], [90, 109, 57, 118, 32]]) rfl (by omega) (by simp) (fun i s h => ?_) (fun s hs => ?_)).mono ?_
  · rw [lit_cell]
    match i, h with
    | 0, h => obtain rfl := Option.some.inj h; rfl
    | 1, h => obtain rfl := Option.some.inj h; rfl
    | 2, h => obtain rfl := Option.some.inj h; rfl
    | 3, h => obtain rfl := Option.some.inj h; rfl
    | 4, h => obtain rfl := Option.some.inj h; rfl
    | i + 5, h => simp at h
  · simp only [List.mem_cons, List.not_mem_nil, or_false] at hs
    rcases hs with rfl | rfl | rfl | rfl | rfl
    · exact ⟨bad1, by decide⟩
    · exact ⟨bad2, by decide⟩
    · exact ⟨bad3, by decide⟩
    · exact ⟨bad4, by decide⟩
    · exact ⟨bad5, by decide⟩
  · rintro e w' ⟨rfl, hb⟩
    exact ⟨rfl, ((Below.refl _ _).alloc (Nat.le_refl _) _).trans (hb.mono (by simp))⟩

set_option maxHeartbeats 4000000 in
set_option maxRecDepth 100000 in
theorem awake_any (w : World) : Calls Try.prog 14 #[] w (True_ w) := by
  have kc := fun (w : World) (C : Array Value) (n c : Nat) => Lib.run_convert_bytes_const (P := Try.prog) w 22 5 C n c Try.underlying22 Try.underlying5
  have z0 : ∀ W, Calls Try.prog 10 #[.int .i64 0] W fun e w' => e = .returned (.int .i64 0) ∧ w' = W := fun W => size_any 0 (by omega) W
  have z1 : ∀ W, Calls Try.prog 10 #[.int .i64 1] W fun e w' => e = .returned (.int .i64 4) ∧ w' = W := fun W => size_any 1 (by omega) W
  have z3 : ∀ W, Calls Try.prog 10 #[.int .i64 3] W fun e w' => e = .returned (.int .i64 4) ∧ w' = W := fun W => size_any 3 (by omega) W
  have z4 : ∀ W, Calls Try.prog 10 #[.int .i64 4] W fun e w' => e = .returned (.int .i64 8) ∧ w' = W := fun W => size_any 4 (by omega) W
  have Z0 := Lib.hid z0; have Z1 := Lib.hid z1; have Z3 := Lib.hid z3; have Z4 := Lib.hid z4
  clear z0 z1 z3 z4
  go_enter Try.func14, Try.ntmps14
  go_wp2_with fail
  refine (enc_nil _).mono ?_
  rintro e w1 ⟨rfl, hb1⟩
  have HB1 := Lib.hid hb1
  clear hb1
  go_wp2_with fail
  refine (enc_lit _ [102] 1 _ ⟨#[90, 103, 61, 61]⟩ rfl (by omega) (by decide +kernel)).mono ?_
  rintro e w2 ⟨rfl, hb2⟩
  have HB2 := Lib.hid (HB1.out.trans (hb2.mono HB1.out.size))
  clear hb2
  go_wp2_with fail
  refine (enc_lit _ [102, 111] 2 _ ⟨#[90, 109, 56, 61]⟩ rfl (by omega) (by decide +kernel)).mono ?_
  rintro e w3 ⟨rfl, hb3⟩
  have HB3 := Lib.hid (HB2.out.trans (hb3.mono HB2.out.size))
  clear hb3
  go_wp2_with fail
  refine (enc_lit _ [102, 111, 111] 3 _ ⟨#[90, 109, 57, 118]⟩ rfl (by omega) (by decide +kernel)).mono ?_
  rintro e w4 ⟨rfl, hb4⟩
  have HB4 := Lib.hid (HB3.out.trans (hb4.mono HB3.out.size))
  clear hb4
  go_wp2_with fail
  refine (enc_lit _ [102, 111, 111, 98, 97, 114] 6 _ ⟨#[90, 109, 57, 118, 89, 109, 70, 121]⟩ rfl (by omega) (by decide +kernel)).mono ?_
  rintro e w5 ⟨rfl, hb5⟩
  have HB5 := Lib.hid (HB4.out.trans (hb5.mono HB4.out.size))
  clear hb5
  go_wp2_with fail
  refine (enc_lit _ [255, 254, 253] 3 _ ⟨#[47, 47, 55, 57]⟩ rfl (by omega) (by decide +kernel)).mono ?_
  rintro e w6 ⟨rfl, hb6⟩
  have HB6 := Lib.hid (HB5.out.trans (hb6.mono HB5.out.size))
  clear hb6
  go_wp2_with fail
  refine (Z0.out _).mono ?_
  rintro e w7 ⟨rfl, rfl⟩
  go_wp2_with fail
  refine (Z1.out _).mono ?_
  rintro e w7 ⟨rfl, rfl⟩
  go_wp2_with fail
  refine (Z3.out _).mono ?_
  rintro e w7 ⟨rfl, rfl⟩
  go_wp2_with fail
  refine (Z4.out _).mono ?_
  rintro e w7 ⟨rfl, rfl⟩
  go_wp2_with fail
  refine (none_lit _ _).mono ?_
  rintro e w8 ⟨rfl, hb8⟩
  have HB8 := Lib.hid (HB6.out.trans (hb8.mono HB6.out.size))
  clear hb8
  go_wp2_with fail
  go_ret
  exact ⟨rfl, HB8.out⟩
end Go.Proofs.Ytiloeffnmkcaoaa.sx
