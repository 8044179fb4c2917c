/-
  Given for 'Rows.ProbeApartSaid': the guards, two plans side by side, the rows that are wanted, both rounds. No condition but those of the theorems.
-/
import Derived.Test.YtamcmhadodgalaaQAwake
namespace Go.Proofs.Ytamcmhadodgalaa.pl
open Go.RowKit Go.Shelf mem find pb
set_option linter.unusedVariables false

abbrev Tru (w : World) (e : Ending) (w' : World) : Prop := e = .returned (.bool true) ∧ Below w.heap.size w w'

set_option maxRecDepth 100000 in
set_option maxHeartbeats 4000000 in
theorem apart_no (ev a b : Int) (A B : Option Addr) (n c m c' : Nat) (w : World) (hm : n ≤ maxLen) (h : (ev < 1 ∨ 1000 < ev) ∨ a < 1 ∨ b ≤ a ∨ 1099511627775 < b ∨ 200 < n) :
    Calls Try.prog 6 #[.int .i64 ev, .int .i64 a, .int .i64 b, .slice A n c, .slice B m c'] w (Tru w) := by
  have HAW := Bx.mk (awake_any w)
  unfold maxLen at hm
  by_cases h1 : ev < 1
  · clear h
    go_enter Try.func6, Try.ntmps6
    go_wp2_with (go_at_call 21; refine HAW.out.mono ?_; rintro e w1 ⟨rfl, hb⟩)
    go_ret
    exact ⟨rfl, hb⟩
  by_cases h2 : 1000 < ev
  · clear h
    go_enter Try.func6, Try.ntmps6
    go_wp2_with (go_at_call 21; refine HAW.out.mono ?_; rintro e w1 ⟨rfl, hb⟩)
    go_ret
    exact ⟨rfl, hb⟩
  by_cases h3 : a < 1
  · clear h
    go_enter Try.func6, Try.ntmps6
    go_wp2_with (go_at_call 21; refine HAW.out.mono ?_; rintro e w1 ⟨rfl, hb⟩)
    go_ret
    exact ⟨rfl, hb⟩
  by_cases h4 : b ≤ a
  · clear h
    go_enter Try.func6, Try.ntmps6
    go_wp2_with (go_at_call 21; refine HAW.out.mono ?_; rintro e w1 ⟨rfl, hb⟩)
    go_ret
    exact ⟨rfl, hb⟩
  by_cases h5 : 1099511627775 < b
  · clear h
    go_enter Try.func6, Try.ntmps6
    go_wp2_with (go_at_call 21; refine HAW.out.mono ?_; rintro e w1 ⟨rfl, hb⟩)
    go_ret
    exact ⟨rfl, hb⟩
  have h7 : 200 < n := by omega
  have h8 : (200 : Int) < (n : Int) := by omega
  clear h
  go_enter Try.func6, Try.ntmps6
  go_wp2_with (go_at_call 21; refine HAW.out.mono ?_; rintro e w1 ⟨rfl, hb⟩)
  go_ret
  exact ⟨rfl, hb⟩

/-- two plans side by side: the one with both rows, the one with the first alone -/
structure Ap (w : World) (rp rq : Nat) (ev a b : Int) (W : World) : Prop where
  ex : ∃ (Sp Sq : Nat → Prop) (na nb : Int), St w Sp rp ev [(a, na), (b, nb)] W ∧ St w Sq rq ev [(a, na)] W ∧ ∀ g, Sp g → Sq g → False

/-- the two rows that are wanted, while they are made -/
structure Bld (W0 : World) (vb va : Value) (xs ys : List Int) (W : World) : Prop where
  below : Below W0.heap.size W0 W
  both : W.ownsRow W0.heap.size 3 1 vb xs.length (I8 xs)
  alone : W.ownsRow W0.heap.size 3 1 va ys.length (I8 ys)
  dis : ∀ g, vb.ownBlock = some g → va.ownBlock ≠ some g

theorem Bld.start (W0 : World) : Bld W0 (.slice none 0 0) (.slice none 0 0) [] [] W0 := ⟨Below.refl _ _, World.ownsRow_nil _ _ _ _, World.ownsRow_nil _ _ _ _, fun g h => by cases h⟩

theorem append_int2 {W : World} {B : Nat} {v : Value} {n : Nat} {xs : List Int} (h : W.ownsRow B 3 1 v n (I8 xs)) (b : Nat) (x : Int) (hb : Lies W b 3 #[.int .i64 x]) (hn : n ≤ 1000) (hB : B ≤ W.heap.size) :
    ∃ A' c' W', (Builtin.append_ #[31, 31] 31 #[v, .slice (some ⟨b, 0, none⟩) 1 1]).run Try.prog W = .ok (.slice A' (n + 1) c') W' ∧ W'.ownsRow B 3 1 (.slice A' (n + 1) c') (n + 1) (I8 (xs ++ [x])) ∧ W.grownBy W' v.ownBlock ∧ ∀ g, rowOf A' = some g → v.ownBlock = some g ∨ W.heap.size ≤ g := by
  obtain ⟨i0, hinf, hz0, hz1, hz2⟩ := info_parts infoInt
  obtain ⟨g, cap, w', hr, ho, hg, hat, _⟩ := run_append_lies (P := Try.prog) W 31 31 B 3 i0 (.int .i64 0) 1 8 Try.underlying31 hinf hz0 hz1 hz2 rfl (by decide) _ _ _ h ⟨b, 0, none⟩ 1 1 [.int .i64 x] rfl
    (fun j u hu => by
      rw [Addr.add_lit, Nat.zero_add, hb.cell]
      match j, hu with
      | 0, hu => simpa using hu) (by simp [Value.oneCell']) (by decide) (by unfold maxLen; omega) (by omega) hB _ rfl
  have e : I8 (xs ++ [x]) = I8 xs ++ [.int .i64 x] := by simp [I8]
  refine ⟨some ⟨g, 0, none⟩, cap, w', hr, by rw [e]; exact ho, hg, fun g' e' => ?_⟩
  simp only [rowOf, Value.ownBlock, Option.some.injEq] at e'
  subst e'
  rcases hat with h | h
  · exact .inl h
  · exact .inr (Nat.le_of_eq h.symm)

theorem own_grown {w w' : World} {B size n : Nat} {e : TypeId} {v : Value} {xs : List Value} {row : Option Nat} (h : w.ownsRow B e size v n xs) (hg : w.grownBy w' row) (hd : ∀ g, v.ownBlock = some g → row ≠ some g) : w'.ownsRow B e size v n xs :=
  h.kept hg (by
    cases hv : v.ownBlock with
    | none => exact .inl rfl
    | some g => exact .inr (fun e => hd g hv e.symm))

theorem Bld.both1 {W0 W : World} {vb va : Value} {xs ys : List Int} (h : Bld W0 vb va xs ys W) (hl : xs.length ≤ 100) (x : Int) :
    ∃ A' c' W', (Builtin.append_ #[31, 31] 31 #[vb, .slice (some ⟨W.heap.size, 0, none⟩) 1 1]).run Try.prog (W.alloc (.cells #[.int .i64 x] 3)) = .ok (.slice A' (xs.length + 1) c') W' ∧ Bld W0 (.slice A' (xs.length + 1) c') va (xs ++ [x]) ys W' := by
  have hs := h.below.size
  have hb : Below W.heap.size W (W.alloc (.cells #[.int .i64 x] 3)) := (Below.refl _ W).alloc (Nat.le_refl _) _
  obtain ⟨A', c', W', hr, ho, hg, hat⟩ := append_int2 (own_below h.both hb) W.heap.size x (Lies.new W _ _) (by omega) (by simp; omega)
  refine ⟨A', c', W', hr, ⟨(h.below.trans (hb.mono hs)).grown hg (by simp; omega) (fun k e => (own_cell h.both e).1), by simpa using ho, own_grown (own_below h.alone hb) hg (fun g e e' => h.dis g e' e), fun g e e' => ?_⟩⟩
  have e2 : rowOf A' = some g := by rw [← rowOf_eq A' (xs.length + 1) c']; exact e
  rcases hat g e2 with h1 | h1
  · exact h.dis g h1 e'
  · have := (own_cell h.alone e').2
    obtain ⟨cur, hc⟩ := this
    have := (Array.getElem?_eq_some_iff.1 hc).1
    simp at h1
    omega
theorem Bld.alone1 {W0 W : World} {vb va : Value} {xs ys : List Int} (h : Bld W0 vb va xs ys W) (hl : ys.length ≤ 100) (x : Int) :
    ∃ A' c' W', (Builtin.append_ #[31, 31] 31 #[va, .slice (some ⟨W.heap.size, 0, none⟩) 1 1]).run Try.prog (W.alloc (.cells #[.int .i64 x] 3)) = .ok (.slice A' (ys.length + 1) c') W' ∧ Bld W0 vb (.slice A' (ys.length + 1) c') xs (ys ++ [x]) W' := by
  obtain ⟨A', c', W', hr, hb⟩ := Bld.both1 (vb := va) (va := vb) (xs := ys) (ys := xs) ⟨h.below, h.alone, h.both, fun g e e' => h.dis g e' e⟩ hl x
  exact ⟨A', c', W', hr, ⟨hb.below, hb.alone, hb.both, fun g e e' => hb.dis g e' e⟩⟩

/-- what the two rounds tell: the one that it is due, the other likewise -/
def Pair (a b : Int) (dx dy : List Int) (nx ny : Nat) : Prop := (nx = 0 ∧ ny = 0 ∧ dx = [] ∧ dy = []) ∨ (nx = 1 ∧ ny = 0 ∧ dx = [b] ∧ dy = []) ∨ (nx = 1 ∧ ny = 1 ∧ dx = [a] ∧ dy = [a]) ∨ (nx = 2 ∧ ny = 1 ∧ dx = [a, b] ∧ dy = [a])
theorem pair_of {a b : Int} (hab : a ≠ b) (now na nb : Int) (xs ys : List Int) (hw : wants xs a = wants ys a) : Pair a b (dues now xs [(a, na), (b, nb)]) (dues now ys [(a, na)]) (dues now xs [(a, na), (b, nb)]).length (dues now ys [(a, na)]).length := by
  unfold Pair
  cases h1 : isDue now xs (a, na) <;> cases h2 : isDue now xs (b, nb)
  all_goals have h3 : isDue now ys (a, na) = isDue now xs (a, na) := by simp [isDue, hw]
  all_goals simp [dues, h1, h2, h3]

theorem ap_rounds {w W0 W : World} {rp rq : Nat} {ev a b : Int} {Ab Aa : Option Addr} {xs ys : List Int} {cb ca nb' na' : Nat} (h : Ap w rp rq ev a b W0) (hb : Bld W0 (.slice Ab nb' cb) (.slice Aa na' ca) xs ys W) (hnb : xs.length = nb') (hna : ys.length = na') (hab : a ≠ b) (hl1 : nb' ≤ 100) (hl2 : na' ≤ 100) (hw : wants xs a = wants ys a)
    {now : Int} (n1 : 0 ≤ now) (n2 : now ≤ 1099511626775) :
    Calls Try.prog 16 #[.pointer (some ⟨rp, 0, none⟩), .int .i64 now, .slice Ab nb' cb] W fun e W1 => ∃ (dx dy : List Int) (nx ny : Nat) (Ax : Option Addr) (cx : Nat), Pair a b dx dy nx ny ∧ e = .returned (.slice Ax nx cx) ∧
      Calls Try.prog 16 #[.pointer (some ⟨rq, 0, none⟩), .int .i64 now, .slice Aa na' ca] W1 fun e' W2 => ∃ (Ay : Option Addr) (cy : Nat), e' = .returned (.slice Ay ny cy) ∧ RowAt W2 (fun g => g < W2.heap.size) Ax (I8 dx) ∧ Ap w rp rq ev a b W2 := by
  subst hnb hna
  obtain ⟨Sp, Sq, na, nb, hp0, hq0, hd⟩ := h.ex
  have hz := hb.below.size
  have hp := hp0.later hb.below
  have hq := hq0.later hb.below
  have rb : RowAt W (okIn Sp W) Ab (I8 xs) := (RowAt.of_own hb.both).weak fun g hg => ⟨hg.2.1, fun e => by have := (hp0.lt g e).2; have := hg.1; omega⟩
  have ra : RowAt W (fun g => g < W.heap.size ∧ ¬ Sp g ∧ ¬ Sq g) Aa (I8 ys) := (RowAt.of_own hb.alone).weak fun g hg => ⟨hg.2.1, fun e => by have := (hp0.lt g e).2; have := hg.1; omega, fun e => by have := (hq0.lt g e).2; have := hg.1; omega⟩
  refine (round_any (cw := cb) hp.pn rb (by omega) n1 n2).mono ?_
  rintro e W1 ⟨Ax, cx, rfl, ox, hp1, hk1⟩
  have hq1 : Pn W1 Sq rq ev [(a, na)] := hq.pn.keep hk1 (fun g _ e e' => hd g e' e)
  have ra1 : RowAt W1 (okIn Sq W1) Aa (I8 ys) := (ra.keep fun g hg => hk1.block g hg.1 hg.2.1).weak fun g hg => ⟨Nat.lt_of_lt_of_le hg.1 hk1.size, hg.2.2⟩
  refine ⟨_, _, _, _, Ax, cx, pair_of hab now na nb xs ys hw, rfl, (round_any (cw := ca) hq1 ra1 (by omega) n1 n2).mono ?_⟩
  rintro e W2 ⟨Ay, cy, rfl, oy, hq2, hk2⟩
  have rx : RowAt W2 (fun g => g < W2.heap.size) Ax (I8 (dues now xs [(a, na), (b, nb)])) :=
    ((RowAt.of_own ox).keep fun g hg => hk2.block g hg.2.1 (fun e => by have := (hq.lt g e).2; have := hg.1; omega)).weak fun g hg => Nat.lt_of_lt_of_le hg.2.1 hk2.size
  have hp2 : Pn W2 Sp rp ev (pb.round now ev xs [(a, na), (b, nb)]) := hp1.keep hk2 (fun g _ e e' => hd g e e')
  have b1 : Below w.heap.size w W1 := hp.below.trans (hk1.below hp.below.size (fun k hk e => by have := (hp.lt k e).1; omega))
  have b2 : Below w.heap.size w W2 := b1.trans (hk2.below b1.size (fun k hk e => by have := (hq.lt k e).1; omega))
  have hz1 := hk1.size
  have hz2 := hk2.size
  have e1 : pb.round now ev xs [(a, na), (b, nb)] = [(a, (after now ev ys (a, na)).2), (b, (after now ev xs (b, nb)).2)] := by
    have k1 : after now ev xs (a, na) = after now ev ys (a, na) := by simp [after, hw]
    have k2 := after_key now ev ys (a, na)
    have k3 := after_key now ev xs (b, nb)
    simp only [pb.round, List.map_cons, List.map_nil, k1]
    congr 1
    · exact Prod.ext k2 rfl
    · congr 1
      exact Prod.ext k3 rfl
  have e2 : pb.round now ev ys [(a, na)] = [(a, (after now ev ys (a, na)).2)] := by
    have k2 := after_key now ev ys (a, na)
    simp only [pb.round, List.map_cons, List.map_nil]
    congr 1
    exact Prod.ext k2 rfl
  rw [e1] at hp2
  rw [e2] at hq2
  exact ⟨Ay, cy, rfl, rx, Sp, Sq, _, _, ⟨hp2, fun g e => ⟨(hp.lt g e).1, by have := (hp.lt g e).2; omega⟩, b2⟩, ⟨hq2, fun g e => ⟨(hq.lt g e).1, by have := (hq.lt g e).2; omega⟩, b2⟩, hd⟩

theorem two_did {w W W' : World} {S T : Nat → Prop} {rp rq : Nat} {ev ev' ev'' : Int} {R R' Q : List (Int × Int)} (hp : St w S rp ev R W) (hq : St w T rq ev' Q W) (hd : ∀ g, S g → T g → False) (h : Did S rp ev'' R' W W') :
    ∃ S', St w S' rp ev'' R' W' ∧ St w T rq ev' Q W' ∧ ∀ g, S' g → T g → False :=
  ⟨_, hp.did h, ⟨hq.pn.keep h.keep (fun g _ e e' => hd g e' e), fun g e => ⟨(hq.lt g e).1, Nat.lt_of_lt_of_le (hq.lt g e).2 h.keep.size⟩, (hp.did h).below⟩, fun g e e' => by
    rcases e.1 with e1 | e1
    · exact hd g e1 e'
    · have := (hq.lt g e').2; omega⟩
theorem ins_one (k : Int) : pb.ins k [] = [(k, 0)] := rfl
theorem ins_two {a b : Int} (h : a < b) : pb.ins b [(a, 0)] = [(a, 0), (b, 0)] := by
  have : ¬ b < a := by omega
  simp [pb.ins, pos, this]

end Go.Proofs.Ytamcmhadodgalaa.pl
