/-
  Given for the seat's laws: the contracts of Answer, Greeting, Has, and of the document's own functions. No condition but those of the theorems.
-/
import Derived.Test.YtdjfpkobnggohaaGTake
import Derived.Lib.IndexAny
namespace Go.Proofs.Ytdjfpkobnggohaa.gr
open Go.RowKit mem
set_option linter.unusedVariables false

/-- bytes of the call's own, just these -/
def MadeOf (l : Str) (w : World) (e : Ending) (w' : World) : Prop := ∃ A c, e = .returned (.slice A l.length c) ∧ Made w w' (.slice A l.length c) l
theorem made_lit (w : World) (l : Str) (hl : l.length ≤ 1000) : Made w (w.alloc (.cells (B8 (ints l)).toArray 5)) (.slice (some ⟨w.heap.size, 0, none⟩) l.length l.length) l := by
  refine ⟨⟨?_, .inr ⟨w.heap.size, l.length, (B8 (ints l)).toArray, rfl, Nat.le_refl _, heap_alloc_new w _, Nat.le_refl _, by unfold maxLen; omega, by simp [B8, ints], ?_⟩⟩, (Below.refl _ _).alloc (Nat.le_refl _) _⟩
  · rw [B8_length, ints_len, Nat.mul_one]
  · rw [Nat.mul_one, List.take_of_length_le (by simp [B8, ints])]
def ans (ok : Bool) : Str := if ok then [5, 2] else [5, 255]
theorem answer_any (ok : Bool) (w : World) : Calls Try.prog 12 #[.bool ok] w (MadeOf (ans ok) w) := by
  cases ok
  · go_enter Try.func12, Try.ntmps12
    go_wp2
    go_ret
    exact ⟨_, _, rfl, made_lit w [5, 255] (by simp)⟩
  · go_enter Try.func12, Try.ntmps12
    go_wp2
    go_ret
    exact ⟨_, _, rfl, made_lit w [5, 2] (by simp)⟩
theorem ranswer_any (ok : Bool) (w : World) : Calls Try.prog 14 #[.bool ok] w (MadeOf (ans ok) w) := by
  cases ok
  · go_enter Try.func14, Try.ntmps14
    go_wp2
    go_ret
    exact ⟨_, _, rfl, made_lit w [5, 255] (by simp)⟩
  · go_enter Try.func14, Try.ntmps14
    go_wp2
    go_ret
    exact ⟨_, _, rfl, made_lit w [5, 2] (by simp)⟩
theorem greeting_any (w : World) : Calls Try.prog 13 #[] w (MadeOf [5, 1, 2] w) := by
  go_enter Try.func13, Try.ntmps13
  go_wp2
  go_ret
  exact ⟨_, _, rfl, made_lit w [5, 1, 2] (by simp)⟩

/-! ### Has -/
def has (l : Str) : Bool := l.contains 2
theorem index_run (w : World) {ok : Nat → Prop} {A : Option Addr} {n c : Nat} {b : Str} (hs : Spell w ok A n c b) :
    (Extern.BytealgIndexByte.indexByte #[.slice A n c, .int .u8 2]).run Try.prog w = .ok (.int .i64 (Lib.indexByte b 2)) w := by
  have hn := spell_len hs
  cases A with
  | none =>
    have h0 : c = 0 := hs.non rfl
    have hb : b = [] := List.eq_nil_of_length_eq_zero (by have := hs.cap; omega)
    subst hb
    exact Lib.run_indexByteNil w n c 2
  | some a =>
    have hl := Lib.run_loadBytesX (P := Try.prog) w (ints b) a .empty (fun j x hj => by
      have hjl : j < n := by have := (List.getElem?_eq_some_iff.1 hj).1; rw [ints_len] at this; omega
      rw [hs.add_cell rfl j hjl]
      rw [List.getD_eq_getElem?_getD, hj]
      rfl)
    rw [hs.len] at hl
    have h2 := Lib.run_indexByteString (P := Try.prog) ⟨(Lib.bytesOf (ints b)).toArray⟩ 2 w
    have he : (⟨ByteArray.empty.data ++ (Lib.bytesOf (ints b)).toArray⟩ : ByteArray) = ⟨(Lib.bytesOf (ints b)).toArray⟩ := by
      apply ByteArray.ext
      show (#[] : Array UInt8) ++ (Lib.bytesOf (ints b)).toArray = (Lib.bytesOf (ints b)).toArray
      simp
    rw [he] at hl
    have h3 : (Extern.BytealgIndexByte.indexByte #[.slice (some a) n c, .int .u8 2]).run Try.prog w = .ok (.int .i64 (Lib.indexByte (Lib.bytesOf (ints b)) (2 : Int).toNat.toUInt8)) w := by
      change Sem.run Try.prog (do
        let b ← Extern.Bytes.bytesOf (.slice (some a) n c)
        let c ← Extern.Bytes.asByte (.int .u8 2)
        match (List.range b.size).find? fun i => b[i]! == c with
        | some i => pure (goInt i)
        | none => pure (goInt (-1))) w = _
      change Sem.run Try.prog (do
        let b ← Extern.Bytes.bytesOf (.string ⟨(Lib.bytesOf (ints b)).toArray⟩)
        let c ← Extern.Bytes.asByte (.int .u8 2)
        match (List.range b.size).find? fun i => b[i]! == c with
        | some i => pure (goInt i)
        | none => pure (goInt (-1))) w = _ at h2
      simp only [Extern.Bytes.bytesOf, Sem.run_bind, Sem.run_pure, hl, Result.andThen] at h2 ⊢
      exact h2
    rw [spell_bytes] at h3
    exact h3
set_option maxHeartbeats 1000000 in
set_option maxRecDepth 100000 in
theorem index_any {w : World} {ok : Nat → Prop} {A : Option Addr} {n c : Nat} {b : Str} (hs : Spell w ok A n c b) :
    Calls Try.prog 19 #[.slice A n c, .int .u8 2] w fun e w' => e = .returned (.int .i64 (Lib.indexByte b 2)) ∧ w' = w := by
  have hr := index_run w hs
  go_enter Try.func19, Try.ntmps19
  go_wp2
  rw [run_callFunc_extern Try.func21 (by kernel_rfl) (by kernel_rfl) (by kernel_rfl) (e := Extern.BytealgIndexByte.indexByte) (by kernel_rfl), hr]
  simp only [Result.andThen]
  rw [Oper.upon_value]
  go_wp2
  go_ret
  exact ⟨rfl, rfl⟩
set_option maxHeartbeats 1000000 in
theorem has_any {w : World} {ok : Nat → Prop} {A : Option Addr} {n c : Nat} {b : Str} (hs : Spell w ok A n c b) :
    Calls Try.prog 15 #[.slice A n c] w fun e w' => e = .returned (.bool (has b)) ∧ w' = w := by
  have HI := Lib.hid (index_any hs)
  have h1 : has b = decide (0 ≤ Lib.indexByte b 2) := Lib.contains_iff_indexByte b 2
  generalize Lib.indexByte b 2 = z at *
  have H1 := Lib.hid h1
  clear h1 hs
  go_enter Try.func15, Try.ntmps15
  go_wp2_with fail
  refine HI.out.mono ?_
  rintro e w3 ⟨rfl, rfl⟩
  go_wp2_with fail
  go_ret
  exact ⟨by rw [H1.out]; rfl, rfl⟩
theorem has_take_end {b : Str} {n : Nat} (hn : b.length = n) (h : has (b.take n) = false) : has b = false := by
  rwa [List.take_of_length_le (by omega)] at h
theorem has_step {b : Str} {i : Nat} {x : UInt8} (hx : b[i]? = some x) (h : has (b.take i) = false) (hne : x ≠ 2) : has (b.take (i + 1)) = false := by
  unfold has at *
  rw [List.take_add_one, hx]
  simp at h ⊢
  exact ⟨h, fun e => hne e.symm⟩
theorem has_hit {b : Str} {i : Nat} (hx : b[i]? = some 2) : has b = true := by
  unfold has
  simpa using List.mem_of_getElem? hx
set_option maxHeartbeats 2000000 in
set_option maxRecDepth 100000 in
theorem rhas_any {w : World} {ok : Nat → Prop} {A : Option Addr} {n c : Nat} {b : Str} (hs : Spell w ok A n c b) (hl : n ≤ 10000) :
    Calls Try.prog 16 #[.slice A n c] w fun e w' => e = .returned (.bool (has b)) ∧ w' = w := by
  have hn := spell_len hs
  have HN := Lib.hid hn
  have HS := Lib.hid hs
  obtain ⟨t, ht⟩ : ∃ t, has b = t := ⟨_, rfl⟩
  have HT := Lib.hid ht
  have h0 : Hid (has (b.take 0) = false) := Lib.hid (by simp [has])
  rw [ht]
  clear hn hs ht
  go_enter Try.func16, Try.ntmps16
  go_wp2
  go_loop [3] (fun s3 => ∃ i : Nat, i ≤ n ∧ s3 = .int .i64 (i : Int) ∧ Hid (has (b.take i) = false)) (fun s3 => n - (intOf s3).toNat)
  case atStart => exact ⟨0, Nat.zero_le _, rfl, h0⟩
  case round =>
    clear h0
    obtain ⟨i, hi, rfl, HB⟩ := hrel
    by_cases hlt : i < n
    · obtain ⟨x, hx⟩ : ∃ x, b[i]? = some x := ⟨b[i]'(by rw [HN.out]; exact hlt), List.getElem?_eq_getElem _⟩
      obtain ⟨g, off, rfl, _, hc⟩ := spell_cell HS.out hx
      by_cases hxe : x = 2
      · subst hxe
        have hc' : w.cell? ⟨g, off + i, none⟩ = some (.int .u8 2) := hc
        have h2 := HT.out.symm.trans (has_hit hx)
        subst h2
        clear hc hx
        go_wp2
        go_ret
        exact ⟨rfl, rfl⟩
      · have HB2 := Lib.hid (has_step hx HB.out hxe)
        have hz : (x.toNat : Int) ≠ 2 := fun e => hxe (UInt8.toNat_inj.1 (by simpa using (show x.toNat = 2 by omega)))
        generalize (x.toNat : Int) = z at hc hz
        have hz' : (z == 2) = false := by simpa using hz
        clear hx hxe hz
        go_wp2
        go_round
        case rel => exact ⟨i + 1, by omega, by go_num, HB2⟩
        case measure => simp [intOf]; omega
    · obtain rfl : i = n := by omega
      have h2 := HT.out.symm.trans (has_take_end HN.out HB.out)
      subst h2
      go_wp2
      go_ret
      exact ⟨rfl, rfl⟩

/-! ### the document's Take and TakeAnswer -/
set_option maxHeartbeats 2000000 in
set_option maxRecDepth 100000 in
theorem rtake_nil {w : World} {A : Option Addr} {c : Nat} : Calls Try.prog 9 #[.slice A 0 c] w (TakeTo ([], 0, 5) w) := by
  go_enter Try.func9, Try.ntmps9
  go_wp2
  exact bodyPost_ret (v := .tuple #[.slice none 0 0, .int .i64 0, .int .i64 5]) (by simp [results, Try.results9, go_sem]) rfl (take_no w 5)
set_option maxHeartbeats 2000000 in
set_option maxRecDepth 100000 in
theorem rtake_other {w : World} {ok : Nat → Prop} {A : Option Addr} {n c : Nat} {v : UInt8} {r : Str} (hs : Spell w ok A n c (v :: r)) (hv : v ≠ 5) : Calls Try.prog 9 #[.slice A n c] w (TakeTo ([], 0, 6) w) := by
  obtain ⟨g, off, rfl, _, hc⟩ := first_cell hs
  have hn := spell_len hs
  have h0 : 0 < n := by rw [← hn]; simp
  have hz := byte_ne hv
  generalize (v.toNat : Int) = z at hc hz
  have hz' : (z != 5) = true := by simpa using hz
  clear hz hs hn hv
  go_enter Try.func9, Try.ntmps9
  go_wp2
  exact bodyPost_ret (v := .tuple #[.slice none 0 0, .int .i64 0, .int .i64 6]) (by simp [results, Try.results9, go_sem]) rfl (take_no w 6)
set_option maxHeartbeats 2000000 in
set_option maxRecDepth 100000 in
theorem rtake_one {w : World} {ok : Nat → Prop} {A : Option Addr} {c : Nat} (hs : Spell w ok A 1 c [5]) : Calls Try.prog 9 #[.slice A 1 c] w (TakeTo ([], 0, 5) w) := by
  obtain ⟨g, off, rfl, _, hc⟩ := first_cell hs
  have hc' : w.cell? ⟨g, off, none⟩ = some (.int .u8 5) := hc
  clear hs hc
  go_enter Try.func9, Try.ntmps9
  go_wp2
  exact bodyPost_ret (v := .tuple #[.slice none 0 0, .int .i64 0, .int .i64 5]) (by simp [results, Try.results9, go_sem]) rfl (take_no w 5)
set_option maxHeartbeats 2000000 in
set_option maxRecDepth 100000 in
theorem rtake_zero {w : World} {ok : Nat → Prop} {A : Option Addr} {n c : Nat} {r : Str} (hs : Spell w ok A n c (5 :: 0 :: r)) : Calls Try.prog 9 #[.slice A n c] w (TakeTo ([], 0, 6) w) := by
  obtain ⟨g, off, rfl, _, hc, hd⟩ := two_cells hs
  have hn := spell_len hs
  have h1 : 1 < n := by rw [← hn]; simp
  have h0 : 0 < n := by omega
  have hc' : w.cell? ⟨g, off, none⟩ = some (.int .u8 5) := hc
  have hd' : w.cell? ⟨g, off + 1, none⟩ = some (.int .u8 0) := hd
  clear hs hc hd hn
  go_enter Try.func9, Try.ntmps9
  go_wp2
  exact bodyPost_ret (v := .tuple #[.slice none 0 0, .int .i64 0, .int .i64 6]) (by simp [results, Try.results9, go_sem]) rfl (take_no w 6)
set_option maxHeartbeats 2000000 in
set_option maxRecDepth 100000 in
theorem rtake_short {w : World} {ok : Nat → Prop} {A : Option Addr} {n c : Nat} {k : UInt8} {ms : Str} (hs : Spell w ok A n c (5 :: k :: ms)) (hk : k ≠ 0) (hl : ms.length < k.toNat) : Calls Try.prog 9 #[.slice A n c] w (TakeTo ([], 0, 5) w) := by
  obtain ⟨g, off, rfl, _, hc, hd⟩ := two_cells hs
  have hn := spell_len hs
  simp only [List.length_cons] at hn
  obtain ⟨hk1, hk2⟩ := toNat_pos hk
  generalize k.toNat = j at *
  have h1 : 1 < n := by omega
  have h0 : 0 < n := by omega
  have hj : (n : Int) - 2 < (j : Int) := by omega
  have h2 : ¬ n < 2 := by omega
  have hjz : ((j : Int) == 0) = false := by simp; omega
  have hc' : w.cell? ⟨g, off, none⟩ = some (.int .u8 5) := hc
  have hj0 : (0 : Int) ≤ (j : Int) := by omega
  have hj1 : (j : Int) < 256 := by omega
  have hn0 : n < 300 := by omega
  clear hs hc hn hl
  go_enter Try.func9, Try.ntmps9
  go_wp2
  exact bodyPost_ret (v := .tuple #[.slice none 0 0, .int .i64 0, .int .i64 5]) (by simp [results, Try.results9, go_sem]) rfl (take_no w 5)
set_option maxHeartbeats 4000000 in
set_option maxRecDepth 100000 in
theorem rtake_whole {w : World} {ok : Nat → Prop} {A : Option Addr} {n c : Nat} {k : UInt8} {ms : Str} (hs : Spell w ok A n c (5 :: k :: ms)) (hok : ∀ g, ok g → g < w.heap.size) (hk : k ≠ 0) (hl : k.toNat ≤ ms.length) (hn1 : n ≤ 10000) : Calls Try.prog 9 #[.slice A n c] w (TakeTo (ms.take k.toNat, 2 + k.toNat, 0) w) := by
  have HS := Lib.hid hs
  obtain ⟨g, off, rfl, hg, hc, hd⟩ := two_cells hs
  have hgw := hok _ hg
  have hn := spell_len hs
  simp only [List.length_cons] at hn
  obtain ⟨hk1, hk2⟩ := toNat_pos hk
  have hby : ∀ i, i < k.toNat → ∃ x, ms[i]? = some x := fun i hi => ⟨ms[i]'(by omega), List.getElem?_eq_getElem _⟩
  have htl : (ms.take k.toNat).length = k.toNat := by simp; omega
  have HTL := Lib.hid htl
  have HBY := Lib.hid hby
  generalize k.toNat = j at *
  have h1 : 1 < n := by omega
  have h0 : 0 < n := by omega
  have hjn : ¬ (n : Int) - 2 < (j : Int) := by omega
  have h2 : ¬ n < 2 := by omega
  have hjz : ((j : Int) == 0) = false := by simp; omega
  have hc' : w.cell? ⟨g, off, none⟩ = some (.int .u8 5) := hc
  have hj0 : (0 : Int) ≤ (j : Int) := by omega
  have hj1 : (j : Int) < 256 := by omega
  have hjm : 2 + j ≤ n := by omega
  have HD := Lib.hid hd
  have HOK := Lib.hid hok
  have hstart : Hid (Made w w (.slice none (0 : Nat) 0) (ms.take 0)) := Lib.hid (made_nil w)
  clear hs hc hn hl htl hok hby
  go_enter Try.func9, Try.ntmps9
  go_wp2
  go_loopw [5, 6] (fun s5 s6 wr => ∃ (i : Nat) (A' : Option Addr) (c' : Nat), i ≤ j ∧ s5 = .slice A' i c' ∧ s6 = .int .i64 (i : Int) ∧ Hid (Made w wr (.slice A' i c') (ms.take i))) (fun _ s6 _ => j - (intOf s6).toNat)
  case atStart => exact ⟨0, none, 0, by omega, rfl, rfl, hstart⟩
  case round =>
    clear hstart hd hc'
    obtain ⟨i, A', c', hi, rfl, rfl, HM⟩ := hrel
    have hd' := cell_kept HD.out HM.out.below
    by_cases hlt : i < j
    · obtain ⟨x, hx⟩ := HBY.out i hlt
      have hs2 : Spell wr ok (some ⟨g, off, none⟩) n c (5 :: k :: ms) := HS.out.below HM.out.below HOK.out
      obtain ⟨g', off', e, _, hcx⟩ := spell_cell hs2 (show (5 :: k :: ms)[2 + i]? = some x by rw [Nat.add_comm]; exact hx)
      cases e
      have hcx' : wr.cell? ⟨g, off + (2 + i), none⟩ = some (.int .u8 (x.toNat : Int)) := hcx
      have hli : (ms.take i).length = i := by
        have := (List.getElem?_eq_some_iff.1 hx).1
        simp; omega
      have hpush := HM.out.push (by omega) x
      rw [hli] at hpush
      obtain ⟨A2, c2, w2, happ, hm2⟩ := hpush
      have hti : ms.take i ++ [x] = ms.take (i + 1) := by rw [List.take_add_one, hx]; rfl
      rw [hti] at hm2
      have HAp := Lib.hid happ
      have HM2 := Lib.hid hm2
      clear happ hm2 hti hli hs2 hcx hx
      go_wp2_with (at_builtin; refine wpList_append_eq rfl _ _ rfl rfl rfl rfl HAp.out ?_)
      go_roundw
      case rel => exact ⟨i + 1, A2, c2, by omega, by go_num, by go_num, HM2⟩
      case measure => simp [intOf]; omega
    · obtain rfl : i = j := by omega
      go_wp2
      exact bodyPost_ret (v := .tuple #[.slice A' i c', .int .i64 (2 + (i : Int)), .int .i64 0]) (by simp [results, Try.results9, go_sem]) rfl ⟨A', c', by show _ = Ending.returned (.tuple #[.slice A' (ms.take i).length c', .int .i64 ((2 + i : Nat) : Int), .int .i64 0]); rw [HTL.out, Int.natCast_add]; rfl, by show Made w wr (.slice A' (ms.take i).length c') (ms.take i); rw [HTL.out]; exact HM.out⟩
theorem rtake_any {w : World} {ok : Nat → Prop} {A : Option Addr} {n c : Nat} {b : Str} (hs : Spell w ok A n c b) (hok : ∀ g, ok g → g < w.heap.size) (hl : n ≤ 10000) : Calls Try.prog 9 #[.slice A n c] w (TakeTo (tk b) w) := by
  have hn := spell_len hs
  rcases way b with h | ⟨v, r, h, hv⟩ | h | ⟨r, h⟩ | ⟨k, ms, h, hk, hl'⟩ | ⟨k, ms, h, hk, hl'⟩
  · subst h; obtain rfl : n = 0 := hn.symm; exact rtake_nil
  · subst h; rw [tk_other hv]; exact rtake_other hs hv
  · subst h; obtain rfl : n = 1 := hn.symm; exact rtake_one hs
  · subst h; rw [tk_zero]; exact rtake_zero hs
  · subst h; rw [tk_short hk hl']; exact rtake_short hs hk hl'
  · subst h; rw [tk_whole hk hl']; exact rtake_whole hs hok hk hl' hl

set_option maxHeartbeats 2000000 in
set_option maxRecDepth 100000 in
theorem rans_any {w : World} {ok : Nat → Prop} {A : Option Addr} {n c : Nat} {b : Str} (hs : Spell w ok A n c b) : Calls Try.prog 11 #[.slice A n c] w (AnsTo (ch b) w) := by
  have hn := spell_len hs
  match b with
  | [] =>
    obtain rfl : n = 0 := hn.symm
    clear hs hn
    go_enter Try.func11, Try.ntmps11
    go_wp2
    exact bodyPost_ret (v := .tuple #[.int .u8 0, .int .i64 0, .int .i64 5]) (by simp [results, Try.results11, go_sem]) rfl ⟨rfl, rfl⟩
  | v :: r =>
    by_cases hv : v = 5
    · subst hv
      match r with
      | [] =>
        obtain rfl : n = 1 := hn.symm
        obtain ⟨g, off, rfl, _, hc⟩ := first_cell hs
        have hc' : w.cell? ⟨g, off, none⟩ = some (.int .u8 5) := hc
        clear hs hc hn
        go_enter Try.func11, Try.ntmps11
        go_wp2
        exact bodyPost_ret (v := .tuple #[.int .u8 0, .int .i64 0, .int .i64 5]) (by simp [results, Try.results11, go_sem]) rfl ⟨rfl, rfl⟩
      | m :: r =>
        obtain ⟨g, off, rfl, _, hc, hd⟩ := two_cells hs
        have h1 : 1 < n := by rw [← hn]; simp
        have h0 : 0 < n := by omega
        have h2 : ¬ n < 2 := by omega
        have hc' : w.cell? ⟨g, off, none⟩ = some (.int .u8 5) := hc
        show Calls _ _ _ _ (AnsTo (m.toNat, 2, 0) w)
        generalize m.toNat = j at *
        clear hs hc hn
        go_enter Try.func11, Try.ntmps11
        go_wp2
        exact bodyPost_ret (v := .tuple #[.int .u8 (j : Int), .int .i64 2, .int .i64 0]) (by simp [results, Try.results11, go_sem]) rfl ⟨rfl, rfl⟩
    · rw [show ch (v :: r) = (0, 0, 6) by simp [ch, hv]]
      obtain ⟨g, off, rfl, _, hc⟩ := first_cell hs
      have h0 : 0 < n := by rw [← hn]; simp
      have hz := byte_ne hv
      generalize (v.toNat : Int) = z at hc hz
      have hz' : (z != 5) = true := by simpa using hz
      clear hz hs hn hv
      go_enter Try.func11, Try.ntmps11
      go_wp2
      exact bodyPost_ret (v := .tuple #[.int .u8 0, .int .i64 0, .int .i64 6]) (by simp [results, Try.results11, go_sem]) rfl ⟨rfl, rfl⟩
end Go.Proofs.Ytdjfpkobnggohaa.gr
