/-
  Given for the seat's laws: the chapter's example, as the statements' own awake runs it: it returns true. No condition.
-/
import Derived.Test.YthagggclhahikaaApi
namespace Go.Proofs.Ythagggclhahikaa.awake
open Go.RowKit mem ring plain put peek same api
set_option linter.unusedVariables false

theorem k2 : kOf 3 2 = 2 := by decide
theorem k9 : kOf 4 9 = 4 := by decide

set_option maxRecDepth 100000 in
set_option maxHeartbeats 2000000 in
theorem awake_any (w : World) : Calls Try.prog 24 #[] w fun e w' => e = .returned (.bool true) ∧ Below w.heap.size w w' := by
  have hnew : Calls Try.prog 9 #[.int .i64 4] w (News 4 w) := new_has 4 w (by omega) (by omega)
  have HN := Lib.hid hnew
  clear hnew
  go_enter Try.func24, Try.ntmps24
  go_wp2_with fail
  refine HN.out.mono ?_
  rintro e w1 ⟨b, s, rfl, hh, hb, hs, hbel⟩
  have hlt := hh.lt
  have hne := hh.ne
  have HB := Lib.hid hbel
  have hsz := hbel.size
  have hp : Calls Try.prog 12 #[.pointer (some ⟨b, 0, none⟩), .slice (some ⟨w1.heap.size, 0, none⟩) 3 3] (w1.alloc (.cells #[.int .u8 1, .int .u8 2, .int .u8 3] 5)) (PutsX b s 4 3 [] [1, 2, 3] _) :=
    put_has _ (hh.below ((Below.refl _ w1).alloc (Nat.le_refl _) _) hlt.1 hlt.2) ((src_lit (w := w1) (cs := [1, 2, 3]) (by simp)).weak (fun g e => by subst e; exact ⟨by simp, by omega⟩))
  have HP := Lib.hid hp
  clear hp hbel hh
  go_wp2_with fail
  refine HP.out.mono ?_
  rintro e w2 ⟨rfl, hh2, hk2⟩
  have hh2' : Has w2 b s 4 [1, 2, 3] := by simpa using hh2
  have hb2 : Below w.heap.size w w2 := ((HB.out.alloc hsz _).trans (hk2.below (by simp; omega) (fun k hk e => by omega)))
  have hsz2 := hb2.size
  have hlt2 := hh2'.lt
  have ht : Calls Try.prog 15 #[.pointer (some ⟨b, 0, none⟩), .int .i64 2] w2 (TakesX b s 4 2 [1, 2, 3] w2) := take_has w2 hh2' 2
  have HT := Lib.hid ht
  have HB2 := Lib.hid hb2
  clear ht hh2 hk2 hh2' hb2
  go_wp2_with fail
  refine HT.out.mono ?_
  rintro e w3 ⟨A, c, rfl, ho, hh3, hk3⟩
  have hh3' : Has w3 b s 4 [3] := by simpa using hh3
  have hb3 : Below w.heap.size w w3 := HB2.out.trans (hk3.below (by omega) (fun k hk e => by omega))
  have hsz3 := hb3.size
  have hsz23 := hk3.size
  have hsrc : Src w3 _ A 2 c [1, 2] := Src.of_own ho
  have hsame : Calls Try.prog 14 #[.slice A 2 c, .slice (some ⟨w3.heap.size, 0, none⟩) 2 2] (w3.alloc (.cells #[.int .u8 1, .int .u8 2] 5)) _ :=
    same_has _ (hsrc.keep (w' := w3.alloc (.cells #[.int .u8 1, .int .u8 2] 5)) (fun g hg => Below.heap_alloc _ _ _ hg.2)) (src_lit (w := w3) (cs := [1, 2]) (by simp))
  have HS := Lib.hid hsame
  have HB3 := Lib.hid hb3
  have HH3 := Lib.hid hh3'
  clear hsame hsrc ho hh3 hk3 hh3' hb3
  go_wp2_with fail
  refine HS.out.mono ?_
  rintro e w4 ⟨rfl, hst⟩
  rw [sameB_refl]
  have h34 : Below w3.heap.size w3 w4 := ((Below.refl _ w3).alloc (Nat.le_refl _) _).trans (hst.below _)
  have hh4 : Has w4 b s 4 [3] := HH3.out.below h34 (by omega) (by omega)
  have hb4 : Below w.heap.size w w4 := HB3.out.trans (h34.mono hsz3)
  have hsz4 := hb4.size
  have hlt4 := hh4.lt
  have hp4 : Calls Try.prog 12 #[.pointer (some ⟨b, 0, none⟩), .slice (some ⟨w4.heap.size, 0, none⟩) 4 4] (w4.alloc (.cells #[.int .u8 4, .int .u8 5, .int .u8 6, .int .u8 7] 5)) (PutsX b s 4 3 [3] [4, 5, 6, 7] _) :=
    put_has _ (hh4.below ((Below.refl _ w4).alloc (Nat.le_refl _) _) hlt4.1 hlt4.2) ((src_lit (w := w4) (cs := [4, 5, 6, 7]) (by simp)).weak (fun g e => by subst e; exact ⟨by simp, by omega⟩))
  have HP4 := Lib.hid hp4
  have HB4 := Lib.hid hb4
  clear hp4 hst h34 hh4 hb4
  go_wp2_with fail
  refine HP4.out.mono ?_
  rintro e w5 ⟨rfl, hh5, hk5⟩
  have hh5' : Has w5 b s 4 [3, 4, 5, 6] := by simpa using hh5
  have hb5 : Below w.heap.size w w5 := ((HB4.out.alloc hsz4 _).trans (hk5.below (by simp; omega) (fun k hk e => by omega)))
  have hsz5 := hb5.size
  have hlt5 := hh5'.lt
  have hn5 : Calls Try.prog 9 #[.int .i64 0] w5 _ := new_refused 0 w5 (by omega)
  have hpk : Calls Try.prog 19 #[.pointer (some ⟨b, 0, none⟩), .int .i64 9] w5 (PeeksX 4 [3, 4, 5, 6] w5) := peek_has w5 hh5' 9
  have HN5 := Lib.hid hn5
  have HPK := Lib.hid hpk
  have HH5 := Lib.hid hh5'
  have HB5 := Lib.hid hb5
  clear hn5 hpk hh5 hk5 hh5' hb5
  go_wp2_with fail
  refine HN5.out.mono ?_
  rintro e w' ⟨rfl, rfl⟩
  go_wp2_with fail
  refine HPK.out.mono ?_
  rintro e w6 ⟨A6, c6, rfl, ho6, hb56⟩
  have hsrc6 : Src w6 _ A6 4 c6 [3, 4, 5, 6] := Src.of_own ho6
  have hsz56 := hb56.size
  have hsame6 : Calls Try.prog 14 #[.slice A6 4 c6, .slice (some ⟨w6.heap.size, 0, none⟩) 4 4] (w6.alloc (.cells #[.int .u8 3, .int .u8 4, .int .u8 5, .int .u8 6] 5)) _ :=
    same_has _ (hsrc6.keep (w' := w6.alloc (.cells #[.int .u8 3, .int .u8 4, .int .u8 5, .int .u8 6] 5)) (fun g hg => Below.heap_alloc _ _ _ hg.2)) (src_lit (w := w6) (cs := [3, 4, 5, 6]) (by simp))
  have HS6 := Lib.hid hsame6
  have HB6 := Lib.hid hb56
  clear hsame6 hsrc6 ho6 hb56
  go_wp2_with fail
  refine HS6.out.mono ?_
  rintro e w7 ⟨rfl, hst7⟩
  rw [sameB_refl]
  have h57 : Below w5.heap.size w5 w7 := (HB6.out.alloc hsz56 _).trans (hst7.below _)
  have hh7 : Has w7 b s 4 [3, 4, 5, 6] := HH5.out.below h57 hlt5.1 hlt5.2
  have hb7 : Below w.heap.size w w7 := HB5.out.trans (h57.mono hsz5)
  have HR : Hid (Calls Try.prog 22 #[.pointer (some ⟨b, 0, none⟩)] w7 fun e w' => e = .returned (.int .i64 0) ∧ w7 = w') := room_has w7 hh7
  have HL : Hid (Calls Try.prog 21 #[.pointer (some ⟨b, 0, none⟩)] w7 fun e w' => e = .returned (.int .i64 4) ∧ w7 = w') := len_has w7 hh7
  have HK : Hid (Calls Try.prog 17 #[.pointer (some ⟨b, 0, none⟩), .int .i64 5] w7 fun e w' => e = .returned (.int .i64 2) ∧ w7 = w') := skip_no w7 hh7 5 (by simp)
  have HB7 := Lib.hid hb7
  clear hst7 h57 hh7 hb7
  go_wp2_with fail
  refine HR.out.mono ?_
  rintro e w' ⟨rfl, rfl⟩
  go_wp2_with fail
  refine HK.out.mono ?_
  rintro e w' ⟨rfl, rfl⟩
  go_wp2_with fail
  refine HL.out.mono ?_
  rintro e w' ⟨rfl, rfl⟩
  go_wp2_with fail
  go_ret
  exact ⟨rfl, HB7.out⟩

end Go.Proofs.Ythagggclhahikaa.awake
