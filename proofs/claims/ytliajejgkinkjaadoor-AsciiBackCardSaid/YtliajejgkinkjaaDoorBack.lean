/-
  Given for the seat's laws: the walk of AsciiBack. No condition but that the library's table lies as it is laid, and that MaxLen's cell holds some int.
-/
import Derived.Test.YtliajejgkinkjaaDoorRefParse
import Derived.Test.YtliajejgkinkjaaDoorAwake
namespace Go.Proofs.YtliajejgkinkjaaDoor.back
open Go.RowKit mem num parse number reader awake
set_option linter.unusedVariables false

def Two (u v : Value) (w : World) (e : Ending) (w' : World) : Prop := e = .returned (.tuple #[u, v]) ∧ w = w'
def TwoB (u v : Value) (w : World) (e : Ending) (w' : World) : Prop := e = .returned (.tuple #[u, v]) ∧ Below w.heap.size w w'
def True_ (w : World) (e : Ending) (w' : World) : Prop := e = .returned (.bool true) ∧ Below w.heap.size w w'

set_option maxHeartbeats 400000 in
theorem back_out (n a g : Int) (s : ByteArray) (w : World) (hm : Max w) (hs : 100 < s.size) : Calls Tryd.prog 4 #[.int .i64 n, .int .i64 a, .int .i64 g, .string s] w (True_ w) := by
  have HA := Lib.hid (awake_any w hm)
  clear hm
  go_enter Tryd.func4, Tryd.ntmps4
  go_wp2_with fail
  refine HA.out.mono ?_
  rintro e w1 ⟨rfl, h1⟩
  go_wp2
  go_ret
  exact ⟨rfl, h1⟩

set_option maxHeartbeats 1000000 in
theorem back_neg_no (n a g : Int) (s t : ByteArray) (w : World) (hm : Max w) (hs : s.size ≤ 100) (hn : n < 0) (q : Int) (hq : q = 2 ∨ q = 6)
    (h1 : ∀ W, Below w.heap.size w W → Calls Tryd.prog 5 #[.int .i64 n] W (TwoB (.string ⟨#[]⟩) (.int .i64 2) W))
    (h3 : ∀ W, Calls Tryd.prog 7 #[.string s, .int .i64 a, .int .i64 g] W (Two (.int .i64 0) (.int .i64 q) W)) :
    Calls Tryd.prog 4 #[.int .i64 n, .int .i64 a, .int .i64 g, .string s] w (True_ w) := by
  have HA := Lib.hid (awake_any w hm)
  have H1 := Lib.hid h1
  have H3 := Lib.hid h3
  clear hm h1 h3
  have hq1 : ((q : Int) != 0) = true := by rcases hq with rfl | rfl <;> rfl
  have hq2 : ((q : Int) == 0) = false := by rcases hq with rfl | rfl <;> rfl
  clear hq
  have hx1 : (decide ((0 : Int) ≤ n)) = false := decide_eq_false (by omega)
  go_enter Tryd.func4, Tryd.ntmps4
  go_wp2_with fail
  refine HA.out.mono ?_
  rintro e w1 ⟨rfl, b1⟩
  have HB1 := Lib.hid b1
  clear b1
  go_wp2_with fail
  refine (H1.out _ HB1.out).mono ?_
  rintro e w2 ⟨rfl, b2⟩
  have HB2 := Lib.hid (HB1.out.trans (b2.mono HB1.out.size))
  clear b2
  go_wp2_with fail
  refine (H3.out _).mono ?_
  rintro e w' ⟨rfl, rfl⟩
  go_wp2
  go_ret
  exact ⟨rfl, HB2.out⟩

set_option maxHeartbeats 1000000 in
theorem back_neg_yes (n a g : Int) (s t : ByteArray) (w : World) (hm : Max w) (hs : s.size ≤ 100) (hn : n < 0) (V : Nat) (hv1 : a ≤ (V : Int)) (hv2 : (V : Int) ≤ g) (h5 : ∀ W, Below w.heap.size w W → Calls Tryd.prog 5 #[.int .i64 (V : Int)] W (TwoB (.string s) (.int .i64 0) W))
    (h1 : ∀ W, Below w.heap.size w W → Calls Tryd.prog 5 #[.int .i64 n] W (TwoB (.string ⟨#[]⟩) (.int .i64 2) W))
    (h3 : ∀ W, Calls Tryd.prog 7 #[.string s, .int .i64 a, .int .i64 g] W (Two (.int .i64 (V : Int)) (.int .i64 0) W)) :
    Calls Tryd.prog 4 #[.int .i64 n, .int .i64 a, .int .i64 g, .string s] w (True_ w) := by
  have HA := Lib.hid (awake_any w hm)
  have H1 := Lib.hid h1
  have H3 := Lib.hid h3
  have H5 := Lib.hid h5
  clear hm h1 h3 h5
  have hself : (s.toList == s.toList) = true := beq_self_eq_true _
  have hv3 : decide ((V : Int) ≤ g) = true := decide_eq_true hv2
  have hv4 : decide (a ≤ (V : Int)) = true := decide_eq_true hv1
  have hx1 : (decide ((0 : Int) ≤ n)) = false := decide_eq_false (by omega)
  go_enter Tryd.func4, Tryd.ntmps4
  go_wp2_with fail
  refine HA.out.mono ?_
  rintro e w1 ⟨rfl, b1⟩
  have HB1 := Lib.hid b1
  clear b1
  go_wp2_with fail
  refine (H1.out _ HB1.out).mono ?_
  rintro e w2 ⟨rfl, b2⟩
  have HB2 := Lib.hid (HB1.out.trans (b2.mono HB1.out.size))
  clear b2
  go_wp2_with fail
  refine (H3.out _).mono ?_
  rintro e w' ⟨rfl, rfl⟩
  go_wp2_with fail
  refine (H5.out _ HB2.out).mono ?_
  rintro e w3 ⟨rfl, b3⟩
  have HB3 := Lib.hid (HB2.out.trans (b3.mono HB2.out.size))
  clear b3
  go_wp2
  go_ret
  exact ⟨rfl, HB3.out⟩

set_option maxHeartbeats 1000000 in
theorem back_bad_no (n a g : Int) (s t : ByteArray) (w : World) (hm : Max w) (hs : s.size ≤ 100) (hn : 0 ≤ n) (hb : a < 0 ∨ g < a) (q : Int) (hq : q = 2 ∨ q = 6)
    (h1 : ∀ W, Below w.heap.size w W → Calls Tryd.prog 5 #[.int .i64 n] W (TwoB (.string t) (.int .i64 0) W))
    (h3 : ∀ W, Calls Tryd.prog 7 #[.string s, .int .i64 a, .int .i64 g] W (Two (.int .i64 0) (.int .i64 q) W)) :
    Calls Tryd.prog 4 #[.int .i64 n, .int .i64 a, .int .i64 g, .string s] w (True_ w) := by
  have HA := Lib.hid (awake_any w hm)
  have H1 := Lib.hid h1
  have H3 := Lib.hid h3
  clear hm h1 h3
  have hq1 : ((q : Int) != 0) = true := by rcases hq with rfl | rfl <;> rfl
  have hq2 : ((q : Int) == 0) = false := by rcases hq with rfl | rfl <;> rfl
  clear hq
  have hbb : decide ((0 : Int) ≤ a) = false ∨ (decide ((0 : Int) ≤ a) = true ∧ decide (a ≤ g) = false) := by
    rcases hb with h | h
    · exact .inl (decide_eq_false (by omega))
    · by_cases h0 : 0 ≤ a
      · exact .inr ⟨decide_eq_true h0, decide_eq_false (by omega)⟩
      · exact .inl (decide_eq_false h0)
  clear hb
  have hx1 : (decide ((0 : Int) ≤ n)) = true := decide_eq_true hn
  rcases hbb with hy1 | ⟨hy1, hy2⟩
  · go_enter Tryd.func4, Tryd.ntmps4
    go_wp2_with fail
    refine HA.out.mono ?_
    rintro e w1 ⟨rfl, b1⟩
    have HB1 := Lib.hid b1
    clear b1
    go_wp2_with fail
    refine (H1.out _ HB1.out).mono ?_
    rintro e w2 ⟨rfl, b2⟩
    have HB2 := Lib.hid (HB1.out.trans (b2.mono HB1.out.size))
    clear b2
    go_wp2_with fail
    refine (H3.out _).mono ?_
    rintro e w' ⟨rfl, rfl⟩
    go_wp2
    go_ret
    exact ⟨rfl, HB2.out⟩
  · go_enter Tryd.func4, Tryd.ntmps4
    go_wp2_with fail
    refine HA.out.mono ?_
    rintro e w1 ⟨rfl, b1⟩
    have HB1 := Lib.hid b1
    clear b1
    go_wp2_with fail
    refine (H1.out _ HB1.out).mono ?_
    rintro e w2 ⟨rfl, b2⟩
    have HB2 := Lib.hid (HB1.out.trans (b2.mono HB1.out.size))
    clear b2
    go_wp2_with fail
    refine (H3.out _).mono ?_
    rintro e w' ⟨rfl, rfl⟩
    go_wp2
    go_ret
    exact ⟨rfl, HB2.out⟩

set_option maxHeartbeats 1000000 in
theorem back_in_no (n a g : Int) (s t : ByteArray) (w : World) (hm : Max w) (hs : s.size ≤ 100) (hn : 0 ≤ n) (ha : 0 ≤ a) (hag : a ≤ g) (hi1 : a ≤ n) (hi2 : n ≤ g) (q : Int) (hq : q = 2 ∨ q = 6)
    (h1 : ∀ W, Below w.heap.size w W → Calls Tryd.prog 5 #[.int .i64 n] W (TwoB (.string t) (.int .i64 0) W))
    (h2 : ∀ W, Calls Tryd.prog 7 #[.string t, .int .i64 a, .int .i64 g] W (Two (.int .i64 n) (.int .i64 0) W))
    (h3 : ∀ W, Calls Tryd.prog 7 #[.string s, .int .i64 a, .int .i64 g] W (Two (.int .i64 0) (.int .i64 q) W)) :
    Calls Tryd.prog 4 #[.int .i64 n, .int .i64 a, .int .i64 g, .string s] w (True_ w) := by
  have HA := Lib.hid (awake_any w hm)
  have H1 := Lib.hid h1
  have H3 := Lib.hid h3
  have H2 := Lib.hid h2
  clear hm h1 h3 h2
  have hq1 : ((q : Int) != 0) = true := by rcases hq with rfl | rfl <;> rfl
  have hq2 : ((q : Int) == 0) = false := by rcases hq with rfl | rfl <;> rfl
  clear hq
  have hi3 : decide (n ≤ g) = true := decide_eq_true hi2
  have hnn : ((n : Int) != n) = false := by simp
  have hx1 : (decide ((0 : Int) ≤ n)) = true := decide_eq_true hn
  have hx2 : (decide ((0 : Int) ≤ a)) = true := decide_eq_true ha
  have hx3 : (decide (a ≤ g)) = true := decide_eq_true hag
  go_enter Tryd.func4, Tryd.ntmps4
  go_wp2_with fail
  refine HA.out.mono ?_
  rintro e w1 ⟨rfl, b1⟩
  have HB1 := Lib.hid b1
  clear b1
  go_wp2_with fail
  refine (H1.out _ HB1.out).mono ?_
  rintro e w2 ⟨rfl, b2⟩
  have HB2 := Lib.hid (HB1.out.trans (b2.mono HB1.out.size))
  clear b2
  go_wp2_with fail
  refine (H2.out _).mono ?_
  rintro e w' ⟨rfl, rfl⟩
  go_wp2_with fail
  refine (H3.out _).mono ?_
  rintro e w' ⟨rfl, rfl⟩
  go_wp2
  go_ret
  exact ⟨rfl, HB2.out⟩

set_option maxHeartbeats 1000000 in
theorem back_in_yes (n a g : Int) (s t : ByteArray) (w : World) (hm : Max w) (hs : s.size ≤ 100) (hn : 0 ≤ n) (ha : 0 ≤ a) (hag : a ≤ g) (hi1 : a ≤ n) (hi2 : n ≤ g) (V : Nat) (hv1 : a ≤ (V : Int)) (hv2 : (V : Int) ≤ g) (h5 : ∀ W, Below w.heap.size w W → Calls Tryd.prog 5 #[.int .i64 (V : Int)] W (TwoB (.string s) (.int .i64 0) W))
    (h1 : ∀ W, Below w.heap.size w W → Calls Tryd.prog 5 #[.int .i64 n] W (TwoB (.string t) (.int .i64 0) W))
    (h2 : ∀ W, Calls Tryd.prog 7 #[.string t, .int .i64 a, .int .i64 g] W (Two (.int .i64 n) (.int .i64 0) W))
    (h3 : ∀ W, Calls Tryd.prog 7 #[.string s, .int .i64 a, .int .i64 g] W (Two (.int .i64 (V : Int)) (.int .i64 0) W)) :
    Calls Tryd.prog 4 #[.int .i64 n, .int .i64 a, .int .i64 g, .string s] w (True_ w) := by
  have HA := Lib.hid (awake_any w hm)
  have H1 := Lib.hid h1
  have H3 := Lib.hid h3
  have H2 := Lib.hid h2
  have H5 := Lib.hid h5
  clear hm h1 h3 h2 h5
  have hself : (s.toList == s.toList) = true := beq_self_eq_true _
  have hv3 : decide ((V : Int) ≤ g) = true := decide_eq_true hv2
  have hv4 : decide (a ≤ (V : Int)) = true := decide_eq_true hv1
  have hi3 : decide (n ≤ g) = true := decide_eq_true hi2
  have hnn : ((n : Int) != n) = false := by simp
  have hx1 : (decide ((0 : Int) ≤ n)) = true := decide_eq_true hn
  have hx2 : (decide ((0 : Int) ≤ a)) = true := decide_eq_true ha
  have hx3 : (decide (a ≤ g)) = true := decide_eq_true hag
  go_enter Tryd.func4, Tryd.ntmps4
  go_wp2_with fail
  refine HA.out.mono ?_
  rintro e w1 ⟨rfl, b1⟩
  have HB1 := Lib.hid b1
  clear b1
  go_wp2_with fail
  refine (H1.out _ HB1.out).mono ?_
  rintro e w2 ⟨rfl, b2⟩
  have HB2 := Lib.hid (HB1.out.trans (b2.mono HB1.out.size))
  clear b2
  go_wp2_with fail
  refine (H2.out _).mono ?_
  rintro e w' ⟨rfl, rfl⟩
  go_wp2_with fail
  refine (H3.out _).mono ?_
  rintro e w' ⟨rfl, rfl⟩
  go_wp2_with fail
  refine (H5.out _ HB2.out).mono ?_
  rintro e w3 ⟨rfl, b3⟩
  have HB3 := Lib.hid (HB2.out.trans (b3.mono HB2.out.size))
  clear b3
  go_wp2
  go_ret
  exact ⟨rfl, HB3.out⟩

set_option maxHeartbeats 1000000 in
theorem back_off_no (n a g : Int) (s t : ByteArray) (w : World) (hm : Max w) (hs : s.size ≤ 100) (hn : 0 ≤ n) (ha : 0 ≤ a) (hag : a ≤ g) (hi : n < a ∨ g < n) (q : Int) (hq : q = 2 ∨ q = 6)
    (h1 : ∀ W, Below w.heap.size w W → Calls Tryd.prog 5 #[.int .i64 n] W (TwoB (.string t) (.int .i64 0) W))
    (h2 : ∀ W, Calls Tryd.prog 7 #[.string t, .int .i64 a, .int .i64 g] W (Two (.int .i64 0) (.int .i64 6) W))
    (h3 : ∀ W, Calls Tryd.prog 7 #[.string s, .int .i64 a, .int .i64 g] W (Two (.int .i64 0) (.int .i64 q) W)) :
    Calls Tryd.prog 4 #[.int .i64 n, .int .i64 a, .int .i64 g, .string s] w (True_ w) := by
  have HA := Lib.hid (awake_any w hm)
  have H1 := Lib.hid h1
  have H3 := Lib.hid h3
  have H2 := Lib.hid h2
  clear hm h1 h3 h2
  have hq1 : ((q : Int) != 0) = true := by rcases hq with rfl | rfl <;> rfl
  have hq2 : ((q : Int) == 0) = false := by rcases hq with rfl | rfl <;> rfl
  clear hq
  have hii : decide (a ≤ n) = false ∨ (decide (a ≤ n) = true ∧ decide (n ≤ g) = false) := by
    rcases hi with h | h
    · exact .inl (decide_eq_false (by omega))
    · by_cases h0 : a ≤ n
      · exact .inr ⟨decide_eq_true h0, decide_eq_false (by omega)⟩
      · exact .inl (decide_eq_false h0)
  clear hi
  have hx1 : (decide ((0 : Int) ≤ n)) = true := decide_eq_true hn
  have hx2 : (decide ((0 : Int) ≤ a)) = true := decide_eq_true ha
  have hx3 : (decide (a ≤ g)) = true := decide_eq_true hag
  rcases hii with hy1 | ⟨hy1, hy2⟩
  · go_enter Tryd.func4, Tryd.ntmps4
    go_wp2_with fail
    refine HA.out.mono ?_
    rintro e w1 ⟨rfl, b1⟩
    have HB1 := Lib.hid b1
    clear b1
    go_wp2_with fail
    refine (H1.out _ HB1.out).mono ?_
    rintro e w2 ⟨rfl, b2⟩
    have HB2 := Lib.hid (HB1.out.trans (b2.mono HB1.out.size))
    clear b2
    go_wp2_with fail
    refine (H2.out _).mono ?_
    rintro e w' ⟨rfl, rfl⟩
    go_wp2_with fail
    refine (H3.out _).mono ?_
    rintro e w' ⟨rfl, rfl⟩
    go_wp2
    go_ret
    exact ⟨rfl, HB2.out⟩
  · go_enter Tryd.func4, Tryd.ntmps4
    go_wp2_with fail
    refine HA.out.mono ?_
    rintro e w1 ⟨rfl, b1⟩
    have HB1 := Lib.hid b1
    clear b1
    go_wp2_with fail
    refine (H1.out _ HB1.out).mono ?_
    rintro e w2 ⟨rfl, b2⟩
    have HB2 := Lib.hid (HB1.out.trans (b2.mono HB1.out.size))
    clear b2
    go_wp2_with fail
    refine (H2.out _).mono ?_
    rintro e w' ⟨rfl, rfl⟩
    go_wp2_with fail
    refine (H3.out _).mono ?_
    rintro e w' ⟨rfl, rfl⟩
    go_wp2
    go_ret
    exact ⟨rfl, HB2.out⟩

set_option maxHeartbeats 1000000 in
theorem back_off_yes (n a g : Int) (s t : ByteArray) (w : World) (hm : Max w) (hs : s.size ≤ 100) (hn : 0 ≤ n) (ha : 0 ≤ a) (hag : a ≤ g) (hi : n < a ∨ g < n) (V : Nat) (hv1 : a ≤ (V : Int)) (hv2 : (V : Int) ≤ g) (h5 : ∀ W, Below w.heap.size w W → Calls Tryd.prog 5 #[.int .i64 (V : Int)] W (TwoB (.string s) (.int .i64 0) W))
    (h1 : ∀ W, Below w.heap.size w W → Calls Tryd.prog 5 #[.int .i64 n] W (TwoB (.string t) (.int .i64 0) W))
    (h2 : ∀ W, Calls Tryd.prog 7 #[.string t, .int .i64 a, .int .i64 g] W (Two (.int .i64 0) (.int .i64 6) W))
    (h3 : ∀ W, Calls Tryd.prog 7 #[.string s, .int .i64 a, .int .i64 g] W (Two (.int .i64 (V : Int)) (.int .i64 0) W)) :
    Calls Tryd.prog 4 #[.int .i64 n, .int .i64 a, .int .i64 g, .string s] w (True_ w) := by
  have HA := Lib.hid (awake_any w hm)
  have H1 := Lib.hid h1
  have H3 := Lib.hid h3
  have H2 := Lib.hid h2
  have H5 := Lib.hid h5
  clear hm h1 h3 h2 h5
  have hself : (s.toList == s.toList) = true := beq_self_eq_true _
  have hv3 : decide ((V : Int) ≤ g) = true := decide_eq_true hv2
  have hv4 : decide (a ≤ (V : Int)) = true := decide_eq_true hv1
  have hii : decide (a ≤ n) = false ∨ (decide (a ≤ n) = true ∧ decide (n ≤ g) = false) := by
    rcases hi with h | h
    · exact .inl (decide_eq_false (by omega))
    · by_cases h0 : a ≤ n
      · exact .inr ⟨decide_eq_true h0, decide_eq_false (by omega)⟩
      · exact .inl (decide_eq_false h0)
  clear hi
  have hx1 : (decide ((0 : Int) ≤ n)) = true := decide_eq_true hn
  have hx2 : (decide ((0 : Int) ≤ a)) = true := decide_eq_true ha
  have hx3 : (decide (a ≤ g)) = true := decide_eq_true hag
  rcases hii with hy1 | ⟨hy1, hy2⟩
  · go_enter Tryd.func4, Tryd.ntmps4
    go_wp2_with fail
    refine HA.out.mono ?_
    rintro e w1 ⟨rfl, b1⟩
    have HB1 := Lib.hid b1
    clear b1
    go_wp2_with fail
    refine (H1.out _ HB1.out).mono ?_
    rintro e w2 ⟨rfl, b2⟩
    have HB2 := Lib.hid (HB1.out.trans (b2.mono HB1.out.size))
    clear b2
    go_wp2_with fail
    refine (H2.out _).mono ?_
    rintro e w' ⟨rfl, rfl⟩
    go_wp2_with fail
    refine (H3.out _).mono ?_
    rintro e w' ⟨rfl, rfl⟩
    go_wp2_with fail
    refine (H5.out _ HB2.out).mono ?_
    rintro e w3 ⟨rfl, b3⟩
    have HB3 := Lib.hid (HB2.out.trans (b3.mono HB2.out.size))
    clear b3
    go_wp2
    go_ret
    exact ⟨rfl, HB3.out⟩
  · go_enter Tryd.func4, Tryd.ntmps4
    go_wp2_with fail
    refine HA.out.mono ?_
    rintro e w1 ⟨rfl, b1⟩
    have HB1 := Lib.hid b1
    clear b1
    go_wp2_with fail
    refine (H1.out _ HB1.out).mono ?_
    rintro e w2 ⟨rfl, b2⟩
    have HB2 := Lib.hid (HB1.out.trans (b2.mono HB1.out.size))
    clear b2
    go_wp2_with fail
    refine (H2.out _).mono ?_
    rintro e w' ⟨rfl, rfl⟩
    go_wp2_with fail
    refine (H3.out _).mono ?_
    rintro e w' ⟨rfl, rfl⟩
    go_wp2_with fail
    refine (H5.out _ HB2.out).mono ?_
    rintro e w3 ⟨rfl, b3⟩
    have HB3 := Lib.hid (HB2.out.trans (b3.mono HB2.out.size))
    clear b3
    go_wp2
    go_ret
    exact ⟨rfl, HB3.out⟩

theorem walk (n a g : Int) (s : ByteArray) (w : World) (hn : (Lit.int .i64 n).wf = true) (hg : (Lit.int .i64 g).wf = true) (ht : Tab w) (hm : Max w) :
    Calls Tryd.prog 4 #[.int .i64 n, .int .i64 a, .int .i64 g, .string s] w (True_ w) := by
  have b1 : -9223372036854775808 ≤ n ∧ n ≤ 9223372036854775807 := by simpa [Lit.wf, IntKind.min, IntKind.max, IntKind.signed, IntKind.bits] using hn
  have b2 : -9223372036854775808 ≤ g ∧ g ≤ 9223372036854775807 := by simpa [Lit.wf, IntKind.min, IntKind.max, IntKind.signed, IntKind.bits] using hg
  by_cases hs : 100 < s.size
  · exact back_out n a g s w hm hs
  · have hs' : s.size ≤ 100 := by omega
    have hT : ∀ W, Below w.heap.size w W → Tab W := fun W hW => tab_below ht tab_g hW (by
      have := hm.lt
      rcases Nat.lt_or_ge 1 w.heap.size with h | h
      · exact h
      · exfalso
        have h2 := ht
        unfold Tab Lib.TabIs World.var? at h2
        rw [tab_g] at h2
        simp [Array.getElem?_eq_none h] at h2)
    have hnum : ∀ (m : Int), 0 ≤ m → m ≤ 9223372036854775807 → ∀ W, Below w.heap.size w W → Calls Tryd.prog 5 #[.int .i64 m] W (TwoB (.string (decS m.toNat)) (.int .i64 0) W) := fun m h0 h1 W hW => number_any m h0 h1 W (hT W hW)
    have hneg : n < 0 → ∀ W, Below w.heap.size w W → Calls Tryd.prog 5 #[.int .i64 n] W (TwoB (.string ⟨#[]⟩) (.int .i64 2) W) := fun h W _ => (number_neg n h W).mono fun e w' ⟨he, hw⟩ => ⟨he, by subst hw; exact Below.refl _ _⟩
    by_cases hb : a < 0 ∨ g < a
    · by_cases h0 : n < 0
      · exact back_neg_no n a g s ⟨#[]⟩ w hm hs' h0 2 (.inl rfl) (hneg h0) (fun W => parse_arg s a g hb W)
      · exact back_bad_no n a g s _ w hm hs' (by omega) hb 2 (.inl rfl) (hnum n (by omega) b1.2) (fun W => parse_arg s a g hb W)
    · have ha : 0 ≤ a := by omega
      have hag : a ≤ g := by omega
      have hp := fun W => parse_in s a g (by omega) ha hag b2.2 W
      unfold Parses at hp
      have hfin : (parseF s.data.toList a g = (0, 6)) ∨ ∃ V : Nat, parseF s.data.toList a g = ((V : Int), 0) ∧ a ≤ (V : Int) ∧ (V : Int) ≤ g ∧ decS V = s := by
        unfold parseF
        split
        · rename_i hc
          refine .inr ⟨_, rfl, hc.2.1, hc.2.2, ?_⟩
          apply ByteArray.ext
          apply Array.toList_inj.1
          rw [decS_list]
          exact dec_dv _ _ rfl hc.1
        · exact .inl rfl
      have hmid : 0 ≤ n → ∀ W, Calls Tryd.prog 7 #[.string (decS n.toNat), .int .i64 a, .int .i64 g] W (Parses (Lib.decDigits n.toNat) a g W) := fun h0 W => by
        have hz : (decS n.toNat).size ≤ 1000 := by
          have h1 : (decS n.toNat).data.toList.length = (decS n.toNat).size := by simp
          rw [decS_list] at h1
          have := dec_19 (u := n.toNat) (by omega)
          omega
        have := parse_in (decS n.toNat) a g hz ha hag b2.2 W
        rwa [decS_list] at this
      have hin : 0 ≤ n → a ≤ n → n ≤ g → parseF (Lib.decDigits n.toNat) a g = (n, 0) := fun h0 h1 h2 => by
        have e : (dv (Lib.decDigits n.toNat) : Int) = n := by rw [dv_dec]; omega
        unfold parseF
        rw [if_pos ⟨canon_dec _, by omega, by omega⟩, e]
      have hoff : 0 ≤ n → (n < a ∨ g < n) → parseF (Lib.decDigits n.toNat) a g = (0, 6) := fun h0 h1 => by
        have e : (dv (Lib.decDigits n.toNat) : Int) = n := by rw [dv_dec]; omega
        unfold parseF
        rw [if_neg (fun hc => by omega)]
      unfold Parses at hmid
      rcases hfin with hf | ⟨V, hf, hv1, hv2, hVs⟩
      · rw [hf] at hp
        by_cases h0 : n < 0
        · exact back_neg_no n a g s ⟨#[]⟩ w hm hs' h0 6 (.inr rfl) (hneg h0) hp
        · have hmm := hmid (by omega)
          by_cases hi : a ≤ n ∧ n ≤ g
          · rw [hin (by omega) hi.1 hi.2] at hmm
            exact back_in_no n a g s _ w hm hs' (by omega) ha hag hi.1 hi.2 6 (.inr rfl) (hnum n (by omega) b1.2) hmm hp
          · rw [hoff (by omega) (by omega)] at hmm
            exact back_off_no n a g s _ w hm hs' (by omega) ha hag (by omega) 6 (.inr rfl) (hnum n (by omega) b1.2) hmm hp
      · rw [hf] at hp
        have h5 := hnum (V : Int) (by omega) (by omega)
        rw [Int.toNat_natCast, hVs] at h5
        by_cases h0 : n < 0
        · exact back_neg_yes n a g s ⟨#[]⟩ w hm hs' h0 V hv1 hv2 h5 (hneg h0) hp
        · have hmm := hmid (by omega)
          by_cases hi : a ≤ n ∧ n ≤ g
          · rw [hin (by omega) hi.1 hi.2] at hmm
            exact back_in_yes n a g s _ w hm hs' (by omega) ha hag hi.1 hi.2 V hv1 hv2 h5 (hnum n (by omega) b1.2) hmm hp
          · rw [hoff (by omega) (by omega)] at hmm
            exact back_off_yes n a g s _ w hm hs' (by omega) ha hag (by omega) V hv1 hv2 h5 (hnum n (by omega) b1.2) hmm hp

end Go.Proofs.YtliajejgkinkjaaDoor.back
