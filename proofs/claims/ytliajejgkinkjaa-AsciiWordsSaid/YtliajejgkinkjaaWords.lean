/-
  Given for the seat's laws: the walk of AsciiWords. No condition but those of the theorems.
-/
import Derived.Test.YtliajejgkinkjaaRefWords
namespace Go.Proofs.Ytliajejgkinkjaa.words
open Go.RowKit mem word lower reader parse refWords
set_option linter.unusedVariables false

set_option maxHeartbeats 400000 in
theorem words_out (s t : ByteArray) (w : World) (h : 100 < s.size ∨ 100 < t.size) : Calls Try.prog 3 #[.string s, .string t] w fun e w' => e = .returned (.bool true) ∧ Below w.heap.size w w' := by
  by_cases h1 : 100 < s.size
  · go_enter Try.func3, Try.ntmps3
    go_wp2
    go_ret
    exact ⟨rfl, Below.refl _ _⟩
  · have h2 : 100 < t.size := by omega
    clear h
    go_enter Try.func3, Try.ntmps3
    go_wp2
    go_ret
    exact ⟨rfl, Below.refl _ _⟩

set_option maxHeartbeats 1000000 in
theorem words_in (s t : ByteArray) (w : World) (hs : s.size ≤ 100) (ht : t.size ≤ 100) : Calls Try.prog 3 #[.string s, .string t] w fun e w' => e = .returned (.bool true) ∧ Below w.heap.size w w' := by
  have h1 := fun W => word_any s (by omega) W
  have h2 := fun W => rword_any s (by omega) W
  have h3 := fun W => lower_any s (by omega) W
  have h4 := fun W => rlower_any s (by omega) W
  have h5 := fun W => same_low s t (by omega) (by omega) W
  have h6 := fun W => rlower_any t (by omega) W
  unfold Lowered at h3 h4 h6
  generalize lowS s = x at *
  generalize lowS t = y at *
  generalize wordB s.data.toList = b at *
  generalize hq : (x.toList == y.toList) = q at *
  have HQ := Lib.hid hq
  have H1 := Lib.hid h1
  have H2 := Lib.hid h2
  have H3 := Lib.hid h3
  have H4 := Lib.hid h4
  have H5 := Lib.hid h5
  have H6 := Lib.hid h6
  clear h1 h2 h3 h4 h5 h6 hq
  go_enter Try.func3, Try.ntmps3
  go_wp2_with fail
  refine (H1.out _).mono ?_
  rintro e w' ⟨rfl, rfl⟩
  go_wp2_with fail
  refine (H2.out _).mono ?_
  rintro e w' ⟨rfl, rfl⟩
  go_wp2_with fail
  refine (H3.out _).mono ?_
  rintro e w1 ⟨rfl, b1⟩
  go_wp2_with fail
  refine (H4.out _).mono ?_
  rintro e w2 ⟨rfl, b2⟩
  have B2 := Lib.hid (b1.trans (b2.mono b1.size))
  clear b1 b2
  go_wp2_with fail
  refine (H5.out _).mono ?_
  rintro e w3 ⟨rfl, b3⟩
  go_wp2_with fail
  refine (H4.out _).mono ?_
  rintro e w4 ⟨rfl, b4⟩
  have B4 := Lib.hid (B2.out.trans ((b3.trans (b4.mono b3.size)).mono B2.out.size))
  clear b3 b4
  go_wp2_with fail
  refine (H6.out _).mono ?_
  rintro e w5 ⟨rfl, b5⟩
  have B5 := Lib.hid (B4.out.trans (b5.mono B4.out.size))
  clear b5
  have hq := HQ.out
  go_wp2
  go_ret
  exact ⟨by simp, B5.out⟩

theorem walk (s t : ByteArray) (w : World) : Calls Try.prog 3 #[.string s, .string t] w fun e w' => e = .returned (.bool true) ∧ Below w.heap.size w w' := by
  by_cases h : 100 < s.size ∨ 100 < t.size
  · exact words_out s t w h
  · exact words_in s t w (by omega) (by omega)

end Go.Proofs.Ytliajejgkinkjaa.words
