/-
  Given for the seat's laws: texts as bytes, slices.Grow, slices.Concat. No condition but those of the theorems.
-/
import Derived.Test.YtnkfmbdaicpahaaGNext
import Derived.Lib.ConvBytes
import Derived.Lib.AppendStr
import Derived.Lib.AppendZeros
namespace Go.Proofs.Ytnkfmbdaicpahaa.gr
open Go.RowKit mem
set_option linter.unusedVariables false

/-! ### a text as bytes -/
theorem conv_any (s : ByteArray) (W : World) : (convert 9 22 (.string s)).run Try.prog W = .ok (.slice (some ⟨W.heap.size, 0, none⟩) s.size (grownCap W s.size 0 5)) (Lib.bytesWorld W 5 s) :=
  Lib.run_convert_string_bytes W _ _ _ s (u := .string) Try.underlying9 Try.underlying22 Try.underlying5
theorem conv_below (s : ByteArray) (W : World) : Below W.heap.size W (Lib.bytesWorld W 5 s) :=
  ⟨rfl, rfl, rfl, by rw [Lib.bytesWorld_size]; omega, fun g hg => Lib.bytesWorld_at_old _ _ _ _ hg⟩
theorem conv_spell (s : ByteArray) (W : World) (hs : s.size ≤ 100000) : Spell (Lib.bytesWorld W 5 s) (fun g => g = W.heap.size) (some ⟨W.heap.size, 0, none⟩) s.size (grownCap W s.size 0 5) s.data.toList := by
  refine ⟨by rw [ints_len, list_len], grownCap_ge _ _ _ _, fun e => (by cases e), grownCap_le_maxLen _ _ _ _ (by unfold maxLen; omega), ints_rng _, fun _ => ⟨W.heap.size, 0, rfl, rfl, fun j z hz => ?_⟩⟩
  have hj : j < s.size := by
    have := (List.getElem?_eq_some_iff.1 hz).1
    rw [ints_len, list_len] at this
    exact this
  rw [Nat.zero_add, Lib.bytesWorld_cell _ _ _ _ hj]
  have h1 := ints_get (byte_at hj)
  rw [h1] at hz
  have h2 : s.data.toList.getD j 0 = s[j] := by rw [List.getD_eq_getElem?_getD, byte_at hj]; rfl
  rw [h2]
  exact congrArg some (congrArg (Value.int .u8) (Option.some.inj hz))

/-! ### slices.Grow -/
set_option maxHeartbeats 2000000 in
theorem grow_any (m : Nat) (h0 : 0 < m) (hm : m ≤ 100000) (w : World) : Calls Try.prog 27 #[.slice none 0 0, .int .i64 (m : Int)] w fun e w' => ∃ A c, e = .returned (.slice A 0 c) ∧ Made w w' (.slice A (0 : Nat) c) [] := by
  obtain ⟨i0, hinf, hz0, hz1, hz2⟩ := info_parts (show (Try.prog.info? 5).map (fun i => (i.zero, i.size, i.bytes)) = some (some (.int .u8 0), 1, 1) by kernel_rfl)
  have happ := Lib.run_append_nil_zeros (P := Try.prog) w 22 3 22 5 i0 (.int .u8 0) .i64 .i64 Try.underlying22 Try.underlying3 hinf hz0 m h0 (by omega) (by omega) (by rw [hz2]; omega)
  have hge := grownCap_ge w m 0 5
  have hmx := grownCap_le_maxLen w m 0 5 (by unfold maxLen; omega)
  generalize hC : Builtin.zeroCells (Value.int .u8 0).cells m ++ Builtin.zeroCells (Value.int .u8 0).cells (grownCap w m 0 5 - m) = C at *
  have hCs : C.size = grownCap w m 0 5 := by
    rw [← hC, Array.size_append, size_zeroCells, size_zeroCells]
    have : (Value.int .u8 0).cells.size = 1 := rfl
    rw [this]; omega
  generalize grownCap w m 0 5 = d at *
  have HM : Bx (Made w (w.drew.alloc (.cells C 5)) (.slice (some ⟨w.heap.size, 0, none⟩) (0 : Nat) d) []) :=
    ⟨⟨World.ownsRow_made w.drew C d (Nat.le_refl _) hmx (by omega), ((Below.refl _ _).drew).alloc (Nat.le_refl _) _⟩⟩
  have HAp := Bx.mk happ
  have hneg : ¬ ((m : Int) < 0) := by omega
  clear happ hC hCs hinf hz0 hz1 hz2
  go_enter Try.func27, Try.ntmps27
  go_wp2_with (at_builtin; refine Lib.wpList_append_run _ rfl _ _ _ _ rfl _ _ rfl rfl _ _ HAp.out ?_)
  go_ret
  exact ⟨_, _, rfl, HM.out⟩

/-! ### slices.Concat -/
def cat (T : Nat → Str) : Nat → Str
  | 0 => []
  | k + 1 => cat T k ++ T k
theorem cat_mono (T : Nat → Str) {k m : Nat} (h : k ≤ m) : (cat T k).length ≤ (cat T m).length := by
  induction h with
  | refl => exact Nat.le_refl _
  | step h ih => rw [cat, List.length_append]; omega
set_option maxHeartbeats 4000000 in
set_option maxRecDepth 100000 in
theorem concat_any {w : World} {h m cap : Nat} {ok : Nat → Prop} {A : Nat → Option Addr} {c : Nat → Nat} {T : Nat → Str}
    (hc : ∀ j, j < m → w.cell? ⟨h, j, none⟩ = some (.slice (A j) (T j).length (c j)) ∧ Spell w ok (A j) (T j).length (c j) (T j)) (hok : ∀ g, ok g → g < w.heap.size) (hm : m ≤ 100) (hh : h < w.heap.size)
    (h0 : 0 < (cat T m).length) (hl : (cat T m).length ≤ 100000) :
    Calls Try.prog 20 #[.slice (some ⟨h, 0, none⟩) m m] w fun e w' => ∃ A' c', e = .returned (.slice A' (cat T m).length c') ∧ Made w w' (.slice A' (cat T m).length c') (cat T m) := by
  have HC := Bx.mk hc
  have HO := Bx.mk hok
  have HT := Bx.mk (fun k (hk : k ≤ m) => cat_mono T hk)
  have HG := Bx.mk grow_any
  have hmm : (m : Int) ≤ 100 := by omega
  clear hc hok
  go_enter Try.func20, Try.ntmps20
  go_wp2_with fail
  go_loopw [3, 5, 11] (fun s3 s5 s11 wr => ∃ k : Nat, k ≤ m ∧ s3 = .int .i64 ((cat T k).length : Int) ∧ s11 = .int .i64 (k : Int) ∧ w = wr) (fun _ _ s11 _ => m - (intOf s11).toNat)
  case atStart => exact ⟨0, by omega, rfl, rfl, rfl⟩
  case round =>
    obtain ⟨k, hk, rfl, rfl, rfl⟩ := hrel
    by_cases hlt : k < m
    · obtain ⟨hc, hs⟩ := HC.out k hlt
      have hn : (cat T (k + 1)).length = (cat T k).length + (T k).length := by rw [cat, List.length_append]
      have hle := HT.out (k + 1) (by omega)
      have HN := Bx.mk hn
      rw [hn] at hle
      have hlt' : (k : Int) < (m : Int) := by omega
      clear hn hs
      generalize (T k).length = t at *
      generalize (cat T k).length = x at *
      have hneg : ¬ ((x : Int) + (t : Int) < 0) := by omega
      have hx2 : x + t ≤ 100000 := by omega
      clear hle
      go_wp2_with fail
      go_roundw
      case rel => exact ⟨k + 1, by omega, by rw [HN.out]; go_num, by go_num, by trivial⟩
      case measure => simp [intOf]; omega
    · obtain rfl : k = m := by omega
      clear HT
      generalize hx : (cat T k).length = x at *
      have HX := Bx.mk hx
      clear hx
      go_wp2_with fail
      refine (HG.out x h0 hl _).mono ?_
      rintro e w2 ⟨A1, c1, rfl, hm1⟩
      have HM1 := Bx.mk hm1
      clear hm1
      go_wp2_with fail
      go_loopw [6, 8, 27] (fun s6 s8 s27 wr => ∃ (j : Nat) (A' : Option Addr) (n' c' : Nat), j ≤ k ∧ n' = (cat T j).length ∧ s6 = .slice A' n' c' ∧ s27 = .int .i64 (j : Int) ∧ Bx (Made w wr (.slice A' n' c') (cat T j))) (fun _ _ s27 _ => k - (intOf s27).toNat)
      case atStart => exact ⟨0, A1, 0, c1, by omega, rfl, rfl, rfl, HM1⟩
      case round =>
        clear HM1
        obtain ⟨j, A', n', c', hj, hn', rfl, rfl, HM⟩ := hrel
        by_cases hlt : j < k
        · obtain ⟨hc, hs⟩ := HC.out j hlt
          have hcr := cell_kept hc HM.out.below
          have hsr := hs.below HM.out.below HO.out
          have hle : (cat T (j + 1)).length ≤ x := by rw [← HX.out]; exact cat_mono T (by omega)
          have hn : (cat T (j + 1)).length = n' + (T j).length := by rw [cat, List.length_append, hn']
          rw [hn] at hle
          obtain ⟨A2, c2, w2, happ, hmd⟩ := HM.out.app (Below.refl _ _) hsr (by rw [← hn']; omega)
          rw [← hn'] at happ hmd
          have HAp := Bx.mk happ
          have HM2 : Bx (Made w w2 (.slice A2 (n' + (T j).length) c2) (cat T (j + 1))) := ⟨hmd⟩
          have HN := Bx.mk hn
          have hlt' : (j : Int) < (k : Int) := by omega
          clear happ hmd hn hn' hs hsr hc hle
          generalize (T j).length = t at *
          go_wp2_with (at_builtin; refine Lib.wpList_append_run _ rfl _ _ _ _ rfl _ _ rfl rfl _ _ HAp.out ?_)
          go_roundw
          case rel => exact ⟨j + 1, A2, n' + t, c2, by omega, HN.out.symm, by go_num, by go_num, HM2⟩
          case measure => simp [intOf]; omega
        · obtain rfl : j = k := by omega
          rw [HX.out] at hn'
          subst hn'
          go_wp2_with fail
          go_ret
          exact ⟨A', c', by rw [HX.out]; rfl, by rw [HX.out]; exact HM.out⟩
end Go.Proofs.Ytnkfmbdaicpahaa.gr
