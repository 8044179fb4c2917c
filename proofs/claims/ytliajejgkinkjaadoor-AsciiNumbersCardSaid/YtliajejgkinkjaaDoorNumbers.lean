/-
  Given for the seat's laws: the walk of AsciiNumbers. No condition but that the library's table lies as it is laid.
-/
import Derived.Test.YtliajejgkinkjaaDoorRefParse
namespace Go.Proofs.YtliajejgkinkjaaDoor.number
open Go.RowKit mem num parse
set_option linter.unusedVariables false

set_option maxHeartbeats 400000 in
theorem numbers_out (n a g : Int) (s : ByteArray) (w : World) (hs : 100 < s.size) : Calls Tryd.prog 3 #[.int .i64 n, .string s, .int .i64 a, .int .i64 g] w fun e w' => e = .returned (.bool true) ∧ Below w.heap.size w w' := by
  go_enter Tryd.func3, Tryd.ntmps3
  go_wp2
  go_ret
  exact ⟨rfl, Below.refl _ _⟩

def Two (u v : Value) (w : World) (e : Ending) (w' : World) : Prop := e = .returned (.tuple #[u, v]) ∧ w = w'

set_option maxHeartbeats 1000000 in
theorem numbers_in (n a g : Int) (s t : ByteArray) (e1 p q : Int) (w : World) (hs : s.size ≤ 100)
    (h1 : Calls Tryd.prog 5 #[.int .i64 n] w fun e w' => e = .returned (.tuple #[.string t, .int .i64 e1]) ∧ Below w.heap.size w w')
    (h2 : ∀ W, Calls Tryd.prog 6 #[.int .i64 n] W (Two (.string t) (.int .i64 e1) W))
    (h3 : ∀ W, Calls Tryd.prog 7 #[.string s, .int .i64 a, .int .i64 g] W (Two (.int .i64 p) (.int .i64 q) W))
    (h4 : ∀ W, Calls Tryd.prog 8 #[.string s, .int .i64 a, .int .i64 g] W (Two (.int .i64 p) (.int .i64 q) W)) :
    Calls Tryd.prog 3 #[.int .i64 n, .string s, .int .i64 a, .int .i64 g] w fun e w' => e = .returned (.bool true) ∧ Below w.heap.size w w' := by
  have H1 := Lib.hid h1
  have H2 := Lib.hid h2
  have H3 := Lib.hid h3
  have H4 := Lib.hid h4
  clear h1 h2 h3 h4
  go_enter Tryd.func3, Tryd.ntmps3
  go_wp2_with fail
  refine H1.out.mono ?_
  rintro e w1 ⟨rfl, hb⟩
  have HB := Lib.hid hb
  clear hb
  go_wp2_with fail
  refine (H2.out _).mono ?_
  rintro e w' ⟨rfl, rfl⟩
  go_wp2_with fail
  refine (H3.out _).mono ?_
  rintro e w' ⟨rfl, rfl⟩
  go_wp2_with fail
  refine (H4.out _).mono ?_
  rintro e w' ⟨rfl, rfl⟩
  go_wp2
  go_ret
  exact ⟨rfl, HB.out⟩

theorem walk (n a g : Int) (s : ByteArray) (w : World) (hn : (Lit.int .i64 n).wf = true) (hg : (Lit.int .i64 g).wf = true) (ht : Tab w) :
    Calls Tryd.prog 3 #[.int .i64 n, .string s, .int .i64 a, .int .i64 g] w fun e w' => e = .returned (.bool true) ∧ Below w.heap.size w w' := by
  have b1 : -9223372036854775808 ≤ n ∧ n ≤ 9223372036854775807 := by simpa [Lit.wf, IntKind.min, IntKind.max, IntKind.signed, IntKind.bits] using hn
  have b2 : -9223372036854775808 ≤ g ∧ g ≤ 9223372036854775807 := by simpa [Lit.wf, IntKind.min, IntKind.max, IntKind.signed, IntKind.bits] using hg
  by_cases hs : 100 < s.size
  · exact numbers_out n a g s w hs
  · have key : ∀ (t : ByteArray) (e1 : Int), (Calls Tryd.prog 5 #[.int .i64 n] w fun e w' => e = .returned (.tuple #[.string t, .int .i64 e1]) ∧ Below w.heap.size w w') →
        (∀ W, Calls Tryd.prog 6 #[.int .i64 n] W (Two (.string t) (.int .i64 e1) W)) →
        Calls Tryd.prog 3 #[.int .i64 n, .string s, .int .i64 a, .int .i64 g] w fun e w' => e = .returned (.bool true) ∧ Below w.heap.size w w' := fun t e1 h1 h2 => by
      by_cases hb : a < 0 ∨ g < a
      · exact numbers_in n a g s t e1 0 2 w (by omega) h1 h2 (fun W => parse_arg s a g hb W) (fun W => rparse_arg s a g hb W)
      · exact numbers_in n a g s t e1 _ _ w (by omega) h1 h2 (fun W => parse_in s a g (by omega) (by omega) (by omega) b2.2 W) (fun W => rparse_in s a g (by omega) (by omega) (by omega) b2.2 W)
    by_cases h0 : n < 0
    · exact key ⟨#[]⟩ 2 ((number_neg n h0 w).mono fun e w' ⟨he, hw⟩ => ⟨he, by subst hw; exact Below.refl _ _⟩) (fun W => rnumber_neg n h0 W)
    · exact key (decS n.toNat) 0 (number_any n (by omega) b1.2 w ht) (fun W => rnumber_any n (by omega) b1.2 W)

end Go.Proofs.YtliajejgkinkjaaDoor.number
