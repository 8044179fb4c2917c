/-
  Given for the seat's laws: the contracts of the program's Take and TakeAnswer. No condition but those of the theorems.
-/
import Derived.Test.YtdjfpkobnggohaaGMem
namespace Go.Proofs.Ytdjfpkobnggohaa.gr
open Go.RowKit mem
set_option linter.unusedVariables false

/-- what Take gives -/
def TakeTo (x : Str × Nat × Nat) (w : World) (e : Ending) (w' : World) : Prop :=
  ∃ A c, e = .returned (.tuple #[.slice A x.1.length c, .int .i64 (x.2.1 : Int), .int .i64 (x.2.2 : Int)]) ∧ Made w w' (.slice A x.1.length c) x.1
theorem take_no (w : World) (k : Nat) : TakeTo ([], 0, k) w (.returned (.tuple #[.slice none 0 0, .int .i64 0, .int .i64 (k : Int)])) w := ⟨none, 0, rfl, made_nil w⟩

set_option maxHeartbeats 1000000 in
theorem clone_any {w : World} {ok : Nat → Prop} {g off n c : Nat} {b : Str} (hs : Spell w ok (some ⟨g, off, none⟩) n c b) (hok : ∀ g, ok g → g < w.heap.size) (hl : n ≤ 10000) :
    Calls Try.prog 18 #[.slice (some ⟨g, off, none⟩) n c] w fun e w' => ∃ A2 c2, e = .returned (.slice A2 n c2) ∧ Made w w' (.slice A2 n c2) b := by
  obtain ⟨A2, c2, w2, happ, hmd⟩ := mine hs hok hl
  have HAp := Lib.hid happ
  have HMd := Lib.hid hmd
  have hnil : ∀ W, (binOp .eql 22 (.slice (some ⟨g, off, none⟩) n c) (.slice none 0 0)).run Try.prog W = .ok (.bool false) W := fun W => Lib.run_eql_slice_nil (h := Try.underlying22) ..
  clear happ hmd hs hok
  go_enter Try.func18, Try.ntmps18
  go_wp2_with (at_builtin; refine wpList_append_eq rfl _ _ rfl rfl rfl rfl HAp.out ?_)
  go_ret
  exact ⟨A2, c2, rfl, HMd.out⟩

set_option maxHeartbeats 2000000 in
set_option maxRecDepth 100000 in
theorem take_nil {w : World} {A : Option Addr} {c : Nat} : Calls Try.prog 8 #[.slice A 0 c] w (TakeTo ([], 0, 5) w) := by
  go_enter Try.func8, Try.ntmps8
  go_wp2
  refine wp_scope_follow 4 ?_
  go_wp2
  rw [follow_ret]
  exact bodyPost_ret (v := .tuple #[.slice none 0 0, .int .i64 0, .int .i64 5]) (by simp [results, Try.results8, go_sem]) rfl (take_no w 5)
set_option maxHeartbeats 2000000 in
set_option maxRecDepth 100000 in
theorem take_other {w : World} {ok : Nat → Prop} {A : Option Addr} {n c : Nat} {v : UInt8} {r : Str} (hs : Spell w ok A n c (v :: r)) (hv : v ≠ 5) : Calls Try.prog 8 #[.slice A n c] w (TakeTo ([], 0, 6) w) := by
  obtain ⟨g, off, rfl, _, hc⟩ := first_cell hs
  have hn := spell_len hs
  have h0 : 0 < n := by rw [← hn]; simp
  have hz := byte_ne hv
  generalize (v.toNat : Int) = z at hc hz
  have hz' : (z != 5) = true := by simpa using hz
  clear hz hs hn hv
  go_enter Try.func8, Try.ntmps8
  go_wp2
  refine wp_scope_follow 4 ?_
  go_wp2
  go_step3
  refine follow_goto _ rfl ?_
  go_wp2
  go_step3
  refine follow_goto _ rfl ?_
  go_wp2
  rw [follow_ret]
  exact bodyPost_ret (v := .tuple #[.slice none 0 0, .int .i64 0, .int .i64 6]) (by simp [results, Try.results8, go_sem]) rfl (take_no w 6)
set_option maxHeartbeats 2000000 in
set_option maxRecDepth 100000 in
theorem take_one {w : World} {ok : Nat → Prop} {A : Option Addr} {c : Nat} (hs : Spell w ok A 1 c [5]) : Calls Try.prog 8 #[.slice A 1 c] w (TakeTo ([], 0, 5) w) := by
  obtain ⟨g, off, rfl, _, hc⟩ := first_cell hs
  have hc' : w.cell? ⟨g, off, none⟩ = some (.int .u8 5) := hc
  clear hs hc
  go_enter Try.func8, Try.ntmps8
  go_wp2
  refine wp_scope_follow 4 ?_
  go_wp2
  go_step3
  refine follow_goto _ rfl ?_
  go_wp2
  rw [follow_ret]
  exact bodyPost_ret (v := .tuple #[.slice none 0 0, .int .i64 0, .int .i64 5]) (by simp [results, Try.results8, go_sem]) rfl (take_no w 5)
set_option maxHeartbeats 2000000 in
set_option maxRecDepth 100000 in
theorem take_zero {w : World} {ok : Nat → Prop} {A : Option Addr} {n c : Nat} {r : Str} (hs : Spell w ok A n c (5 :: 0 :: r)) : Calls Try.prog 8 #[.slice A n c] w (TakeTo ([], 0, 6) w) := by
  obtain ⟨g, off, rfl, _, hc, hd⟩ := two_cells hs
  have hn := spell_len hs
  have h1 : 1 < n := by rw [← hn]; simp
  have h0 : 0 < n := by omega
  have hc' : w.cell? ⟨g, off, none⟩ = some (.int .u8 5) := hc
  have hd' : w.cell? ⟨g, off + 1, none⟩ = some (.int .u8 0) := hd
  clear hs hc hd hn
  go_enter Try.func8, Try.ntmps8
  go_wp2
  refine wp_scope_follow 4 ?_
  go_wp2
  go_step3
  refine follow_goto _ rfl ?_
  go_wp2
  go_step3
  refine follow_goto _ rfl ?_
  go_wp2
  go_step3
  refine follow_goto _ rfl ?_
  go_wp2
  rw [follow_ret]
  exact bodyPost_ret (v := .tuple #[.slice none 0 0, .int .i64 0, .int .i64 6]) (by simp [results, Try.results8, go_sem]) rfl (take_no w 6)
set_option maxHeartbeats 2000000 in
set_option maxRecDepth 100000 in
theorem take_short {w : World} {ok : Nat → Prop} {A : Option Addr} {n c : Nat} {k : UInt8} {ms : Str} (hs : Spell w ok A n c (5 :: k :: ms)) (hk : k ≠ 0) (hl : ms.length < k.toNat) : Calls Try.prog 8 #[.slice A n c] w (TakeTo ([], 0, 5) w) := by
  obtain ⟨g, off, rfl, _, hc, hd⟩ := two_cells hs
  have hn := spell_len hs
  simp only [List.length_cons] at hn
  obtain ⟨hk1, hk2⟩ := toNat_pos hk
  generalize k.toNat = j at *
  have h1 : 1 < n := by omega
  have h0 : 0 < n := by omega
  have hj : n < 2 + j := by omega
  have hjz : ((j : Int) == 0) = false := by simp; omega
  have hc' : w.cell? ⟨g, off, none⟩ = some (.int .u8 5) := hc
  have hj0 : (0 : Int) ≤ (j : Int) := by omega
  have hj1 : (j : Int) < 256 := by omega
  clear hs hc hn hl
  go_enter Try.func8, Try.ntmps8
  go_wp2
  refine wp_scope_follow 4 ?_
  go_wp2
  go_step3
  refine follow_goto _ rfl ?_
  go_wp2
  go_step3
  refine follow_goto _ rfl ?_
  go_wp2
  rw [follow_ret]
  exact bodyPost_ret (v := .tuple #[.slice none 0 0, .int .i64 0, .int .i64 5]) (by simp [results, Try.results8, go_sem]) rfl (take_no w 5)
set_option maxHeartbeats 2000000 in
set_option maxRecDepth 100000 in
theorem take_whole {w : World} {ok : Nat → Prop} {A : Option Addr} {n c : Nat} {k : UInt8} {ms : Str} (hs : Spell w ok A n c (5 :: k :: ms)) (hok : ∀ g, ok g → g < w.heap.size) (hk : k ≠ 0) (hl : k.toNat ≤ ms.length) : Calls Try.prog 8 #[.slice A n c] w (TakeTo (ms.take k.toNat, 2 + k.toNat, 0) w) := by
  obtain ⟨g, off, rfl, _, hc, hd⟩ := two_cells hs
  have hn := spell_len hs
  have hcap := hs.cap
  simp only [List.length_cons] at hn
  obtain ⟨hk1, hk2⟩ := toNat_pos hk
  have hsp : Spell w ok (some ⟨g, off + 2, none⟩) k.toNat (c - 2) (ms.take k.toNat) := by
    have h := hs.cut 2 k.toNat (by omega)
    have e : cutA (some ⟨g, off, none⟩) c 2 = some ⟨g, off + 2, none⟩ := by
      unfold cutA
      rw [if_neg (by omega)]
      simp [Addr.add]
    rw [e, ints_drop, ints_take] at h
    exact h
  have htl : (ms.take k.toNat).length = k.toNat := by simp; omega
  have HCL := Lib.hid (clone_any hsp hok (by omega))
  have HTL := Lib.hid htl
  generalize ms.take k.toNat = t at *
  generalize k.toNat = j at *
  have h1 : 1 < n := by omega
  have h0 : 0 < n := by omega
  have hj : 2 + j ≤ n := by omega
  have hjz : ((j : Int) == 0) = false := by simp; omega
  have hc' : w.cell? ⟨g, off, none⟩ = some (.int .u8 5) := hc
  have hj0 : (0 : Int) ≤ (j : Int) := by omega
  have hj1 : (j : Int) < 256 := by omega
  clear hs hc hn hl hsp htl hok
  go_enter Try.func8, Try.ntmps8
  go_wp2
  refine wp_scope_follow 4 ?_
  go_wp2
  go_step3
  refine follow_goto _ rfl ?_
  go_wp2
  go_step3
  refine follow_goto _ rfl ?_
  go_wp2
  go_step3
  refine follow_goto _ rfl ?_
  go_wp2_with fail
  refine HCL.out.mono ?_
  rintro e w3 ⟨A2, c2, rfl, hmd⟩
  have HM := Lib.hid hmd
  clear hmd
  go_wp2_with fail
  rw [follow_ret]
  exact bodyPost_ret (v := .tuple #[.slice A2 j c2, .int .i64 (2 + (j : Int)), .int .i64 0]) (by simp [results, Try.results8, go_sem]) rfl ⟨A2, c2, by show _ = Ending.returned (.tuple #[.slice A2 t.length c2, .int .i64 ((2 + j : Nat) : Int), .int .i64 0]); rw [HTL.out, Int.natCast_add]; rfl, by show Made w w3 (.slice A2 t.length c2) t; rw [HTL.out]; exact HM.out⟩
theorem take_any {w : World} {ok : Nat → Prop} {A : Option Addr} {n c : Nat} {b : Str} (hs : Spell w ok A n c b) (hok : ∀ g, ok g → g < w.heap.size) : Calls Try.prog 8 #[.slice A n c] w (TakeTo (tk b) w) := by
  have hn := spell_len hs
  rcases way b with h | ⟨v, r, h, hv⟩ | h | ⟨r, h⟩ | ⟨k, ms, h, hk, hl⟩ | ⟨k, ms, h, hk, hl⟩
  · subst h; obtain rfl : n = 0 := hn.symm; exact take_nil
  · subst h; rw [tk_other hv]; exact take_other hs hv
  · subst h; obtain rfl : n = 1 := hn.symm; exact take_one hs
  · subst h; rw [tk_zero]; exact take_zero hs
  · subst h; rw [tk_short hk hl]; exact take_short hs hk hl
  · subst h; rw [tk_whole hk hl]; exact take_whole hs hok hk hl

/-! ### TakeAnswer -/
def AnsTo (x : Nat × Nat × Nat) (w : World) (e : Ending) (w' : World) : Prop := e = .returned (.tuple #[.int .u8 (x.1 : Int), .int .i64 (x.2.1 : Int), .int .i64 (x.2.2 : Int)]) ∧ w' = w
set_option maxHeartbeats 2000000 in
set_option maxRecDepth 100000 in
theorem ans_nil {w : World} {A : Option Addr} {c : Nat} : Calls Try.prog 10 #[.slice A 0 c] w (AnsTo (0, 0, 5) w) := by
  go_enter Try.func10, Try.ntmps10
  go_wp2
  refine wp_scope_follow 4 ?_
  go_wp2
  rw [follow_ret]
  exact bodyPost_ret (v := .tuple #[.int .u8 0, .int .i64 0, .int .i64 5]) (by simp [results, Try.results10, go_sem]) rfl ⟨rfl, rfl⟩
set_option maxHeartbeats 2000000 in
set_option maxRecDepth 100000 in
theorem ans_other {w : World} {ok : Nat → Prop} {A : Option Addr} {n c : Nat} {v : UInt8} {r : Str} (hs : Spell w ok A n c (v :: r)) (hv : v ≠ 5) : Calls Try.prog 10 #[.slice A n c] w (AnsTo (0, 0, 6) w) := by
  obtain ⟨g, off, rfl, _, hc⟩ := first_cell hs
  have hn := spell_len hs
  have h0 : 0 < n := by rw [← hn]; simp
  have hz := byte_ne hv
  generalize (v.toNat : Int) = z at hc hz
  have hz' : (z != 5) = true := by simpa using hz
  clear hz hs hn hv
  go_enter Try.func10, Try.ntmps10
  go_wp2
  refine wp_scope_follow 4 ?_
  go_wp2
  go_step3
  refine follow_goto _ rfl ?_
  go_wp2
  go_step3
  refine follow_goto _ rfl ?_
  go_wp2
  rw [follow_ret]
  exact bodyPost_ret (v := .tuple #[.int .u8 0, .int .i64 0, .int .i64 6]) (by simp [results, Try.results10, go_sem]) rfl ⟨rfl, rfl⟩
set_option maxHeartbeats 2000000 in
set_option maxRecDepth 100000 in
theorem ans_one {w : World} {ok : Nat → Prop} {A : Option Addr} {c : Nat} (hs : Spell w ok A 1 c [5]) : Calls Try.prog 10 #[.slice A 1 c] w (AnsTo (0, 0, 5) w) := by
  obtain ⟨g, off, rfl, _, hc⟩ := first_cell hs
  have hc' : w.cell? ⟨g, off, none⟩ = some (.int .u8 5) := hc
  clear hs hc
  go_enter Try.func10, Try.ntmps10
  go_wp2
  refine wp_scope_follow 4 ?_
  go_wp2
  go_step3
  refine follow_goto _ rfl ?_
  go_wp2
  rw [follow_ret]
  exact bodyPost_ret (v := .tuple #[.int .u8 0, .int .i64 0, .int .i64 5]) (by simp [results, Try.results10, go_sem]) rfl ⟨rfl, rfl⟩
set_option maxHeartbeats 2000000 in
set_option maxRecDepth 100000 in
theorem ans_whole {w : World} {ok : Nat → Prop} {A : Option Addr} {n c : Nat} {m : UInt8} {r : Str} (hs : Spell w ok A n c (5 :: m :: r)) : Calls Try.prog 10 #[.slice A n c] w (AnsTo (m.toNat, 2, 0) w) := by
  obtain ⟨g, off, rfl, _, hc, hd⟩ := two_cells hs
  have hn := spell_len hs
  have h1 : 1 < n := by rw [← hn]; simp
  have h0 : 0 < n := by omega
  have hc' : w.cell? ⟨g, off, none⟩ = some (.int .u8 5) := hc
  generalize m.toNat = j at *
  clear hs hc hn
  go_enter Try.func10, Try.ntmps10
  go_wp2
  refine wp_scope_follow 4 ?_
  go_wp2
  go_step3
  refine follow_goto _ rfl ?_
  go_wp2
  go_step3
  refine follow_goto _ rfl ?_
  go_wp2
  rw [follow_ret]
  exact bodyPost_ret (v := .tuple #[.int .u8 (j : Int), .int .i64 2, .int .i64 0]) (by simp [results, Try.results10, go_sem]) rfl ⟨rfl, rfl⟩
theorem ans_any {w : World} {ok : Nat → Prop} {A : Option Addr} {n c : Nat} {b : Str} (hs : Spell w ok A n c b) : Calls Try.prog 10 #[.slice A n c] w (AnsTo (ch b) w) := by
  have hn := spell_len hs
  match b with
  | [] => obtain rfl : n = 0 := hn.symm; exact ans_nil
  | v :: r =>
    by_cases hv : v = 5
    · subst hv
      match r with
      | [] => obtain rfl : n = 1 := hn.symm; exact ans_one hs
      | m :: r => exact ans_whole hs
    · rw [show ch (v :: r) = (0, 0, 6) by simp [ch, hv]]
      exact ans_other hs hv
end Go.Proofs.Ytdjfpkobnggohaa.gr
