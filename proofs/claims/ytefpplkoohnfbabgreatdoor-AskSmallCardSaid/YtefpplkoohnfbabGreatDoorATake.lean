/-
  Given for the seat's laws: the contracts of Take and TakeReply. No condition but those of the theorems.
-/
import Derived.Test.YtefpplkoohnfbabGreatDoorANam
import Derived.RegionTactic
import Derived.BigRegion
namespace Go.Proofs.YtefpplkoohnfbabGreatDoor.ak
open Go.RowKit mem hostp hw own
set_option linter.unusedVariables false

section
variable {W : World} {B g : Nat} {t : TypeId} {r : R} {rest : List Value}
theorem Rd.setRest (h : Rd W B g t r rest) (i : Nat) (v : Value) : Rd (W.setCell ⟨g, i + 3, none⟩ v) B g t r (rest.set i v) ∧ Kp g W (W.setCell ⟨g, i + 3, none⟩ v) := by
  obtain ⟨A, c, hl, hs⟩ := h.lies
  have hb : Below B W (W.setCell ⟨g, i + 3, none⟩ v) := (Below.refl _ _).setCell (by exact h.ge) _
  refine ⟨⟨⟨A, c, ?_, hs.below hb (fun g hg => hg)⟩, h.ge, h.sum⟩, (kp_refl g W).setCell (.inr rfl) _⟩
  have := hl.set (i + 3) v
  simpa using this
theorem Rd.restCell (h : Rd W B g t r rest) (i : Nat) : W.cell? ⟨g, i + 3, none⟩ = rest[i]? ∧ W.frozen? ⟨g, i + 3, none⟩ = false := by
  obtain ⟨A, c, hl, hs⟩ := h.lies
  refine ⟨?_, hl.frozen _⟩
  rw [hl.cell]
  simp
theorem Rd.rest3 {a b c : Value} (h : Rd W B g t r [a, b, c]) : W.cell? ⟨g, 3, none⟩ = some a ∧ W.cell? ⟨g, 4, none⟩ = some b ∧ W.cell? ⟨g, 5, none⟩ = some c ∧ W.frozen? ⟨g, 3, none⟩ = false ∧ W.frozen? ⟨g, 4, none⟩ = false ∧ W.frozen? ⟨g, 5, none⟩ = false :=
  ⟨(h.restCell 0).1, (h.restCell 1).1, (h.restCell 2).1, (h.restCell 0).2, (h.restCell 1).2, (h.restCell 2).2⟩
theorem Rd.set3 {a b c : Value} (h : Rd W B g t r [a, b, c]) (v : Value) : Rd (W.setCell ⟨g, 3, none⟩ v) B g t r [v, b, c] ∧ Kp g W (W.setCell ⟨g, 3, none⟩ v) := h.setRest 0 v
theorem Rd.set4 {a b c : Value} (h : Rd W B g t r [a, b, c]) (v : Value) : Rd (W.setCell ⟨g, 4, none⟩ v) B g t r [a, v, c] ∧ Kp g W (W.setCell ⟨g, 4, none⟩ v) := h.setRest 1 v
theorem Rd.set5 {a b c : Value} (h : Rd W B g t r [a, b, c]) (v : Value) : Rd (W.setCell ⟨g, 5, none⟩ v) B g t r [a, b, v] ∧ Kp g W (W.setCell ⟨g, 5, none⟩ v) := h.setRest 2 v
theorem Rd.lt (h : Rd W B g t r rest) : g < W.heap.size := by
  obtain ⟨A, c, hl, _⟩ := h.lies
  exact hl.lt
end
theorem addr_kinds (r : R) (e : Nat) : ((r.addr e).1.1 = 1 ∧ (r.addr e).1.2 = 4) ∨ ((r.addr e).1.1 = 2 ∧ (r.addr e).1.2 = 16) ∨ ((r.addr e).1.1 = 3 ∧ (r.addr e).1.2 ≤ 255) ∨ ((r.addr e).1.1 = 0 ∧ (r.addr e).1.2 = 0) := by
  unfold R.addr
  split
  · exact .inl ⟨rfl, rfl⟩
  · split
    · exact .inr (.inl ⟨rfl, rfl⟩)
    · split
      · have := r.next.2.next.1.toNat_lt
        exact .inr (.inr (.inl ⟨rfl, by show r.next.2.next.1.toNat ≤ 255; omega⟩))
      · exact .inr (.inr (.inr ⟨rfl, rfl⟩))
/-- what the request's reading leaves -/
def QTo (B g : Nat) (a : (Nat × Nat) × R) (W : World) (e : Ending) (W' : World) : Prop :=
  e = .returned (.tuple #[]) ∧ Rd W' B g 44 (R.host a).2.lastF [.int .u8 (a.1.1 : Int), .string (S (R.host a).1), .int .i64 ((R.host a).2.port.1 : Int)] ∧ Kp g W W'
theorem qto_zero {B g : Nat} {a : (Nat × Nat) × R} {W W' : World} {x : Str} {r5 rp : R} {p : Nat} (hh : R.host a = (x, r5)) (hpp : r5.port = (p, rp)) (hp : p = 0) (hr : Rd W' B g 44 (rp.fail 6) [.int .u8 (a.1.1 : Int), .string (S x), .int .i64 0]) (hk : Kp g W W') : QTo B g a W (.returned (.tuple #[])) W' := by
  subst hp
  unfold QTo R.lastF
  rw [hh, hpp, if_pos rfl]
  exact ⟨rfl, hr, hk⟩
theorem qto_pos {B g : Nat} {a : (Nat × Nat) × R} {W W' : World} {x : Str} {r5 rp : R} {p : Nat} (hh : R.host a = (x, r5)) (hpp : r5.port = (p, rp)) (hp : p ≠ 0) (hr : Rd W' B g 44 rp [.int .u8 (a.1.1 : Int), .string (S x), .int .i64 (p : Int)]) (hk : Kp g W W') : QTo B g a W (.returned (.tuple #[])) W' := by
  unfold QTo R.lastF
  rw [hh, hpp, if_neg hp]
  exact ⟨rfl, hr, hk⟩
set_option maxHeartbeats 4000000 in
set_option maxRecDepth 100000 in
theorem qtake_any {w W : World} {B g : Nat} {b : Str} (h : Rd W B g 44 ⟨b, 0, 0⟩ [.int .u8 0, .string ⟨#[]⟩, .int .i64 0]) (he : Env w) (hw : Below w.heap.size w W) (hB : B ≤ w.heap.size) (hg : w.heap.size ≤ g) : Calls Tryz.prog 11 #[.pointer (some ⟨g, 0, none⟩)] W (QTo B g ((R.head b).addr 141) W) := by
  have HE : Bx (∀ V, Kp g W V → Env V) := ⟨fun V hV => he.below (hw.trans (kp_to hV hg hw.size))⟩
  have HH := Bx.mk h
  have H1 : Bx (Calls Tryz.prog 15 #[.pointer (some ⟨g, 0, none⟩), .int .u8 5, .int .i64 6] W _) := ⟨only_any h 5 6⟩
  clear h he hw hB hg
  unfold R.head
  generalize (⟨b, 0, 0⟩ : R).only 5 6 = r1 at *
  go_enter Tryz.func11, Tryz.ntmps11
  go_wp2_with fail
  refine H1.out.mono ?_
  rintro e W1 ⟨rfl, h1, k1⟩
  have H2 : Bx (Calls Tryz.prog 15 #[.pointer (some ⟨g, 0, none⟩), .int .u8 1, .int .i64 140] W1 _) := ⟨only_any h1 1 140⟩
  have K1 := Bx.mk k1
  clear h1 k1 H1 HH
  generalize r1.only 1 140 = r2 at *
  go_wp2_with fail
  refine H2.out.mono ?_
  rintro e W2 ⟨rfl, h1, k1⟩
  have H3 : Bx (Calls Tryz.prog 15 #[.pointer (some ⟨g, 0, none⟩), .int .u8 0, .int .i64 6] W2 _) := ⟨only_any h1 0 6⟩
  have K2 := Bx.mk (kp_trans K1.out k1)
  clear h1 k1 H2 K1
  generalize r2.only 0 6 = r3 at *
  go_wp2_with fail
  refine H3.out.mono ?_
  rintro e W3 ⟨rfl, h1, k1⟩
  have H4 : Bx (Calls Tryz.prog 16 #[.pointer (some ⟨g, 0, none⟩), .int .i64 141] W3 _) := ⟨addr_any h1 141⟩
  have K3 := Bx.mk (kp_trans K2.out k1)
  clear h1 k1 H3 K2
  have hkinds := addr_kinds r3 141
  generalize r3.addr 141 = a at *
  obtain ⟨⟨k, n⟩, r4⟩ := a
  dsimp only at *
  go_wp2_with fail
  refine H4.out.mono ?_
  rintro e W4 ⟨rfl, h4, k1⟩
  have K4 := Bx.mk (kp_trans K3.out k1)
  have HC := Bx.mk h4
  clear k1 H4 K3
  obtain ⟨c3, c4, c5, f3, f4, f5⟩ := h4.rest3
  obtain ⟨h5, k5⟩ := h4.set3 (.int .u8 (k : Int))
  have H5 := Bx.mk h5
  have K5 := Bx.mk (kp_trans K4.out k5)
  clear h4 h5 k5 HC K4 c4 c5 f4 f5
  rcases hkinds with ⟨rfl, rfl⟩ | ⟨rfl, rfl⟩ | ⟨rfl, hn⟩ | ⟨rfl, rfl⟩
  · have H5' : Bx (Rd (W4.setCell ⟨g, 3, none⟩ (.int .u8 1)) B g 44 r4 [.int .u8 1, .string ⟨#[]⟩, .int .i64 0]) := H5
    have K5' : Bx (Kp g W (W4.setCell ⟨g, 3, none⟩ (.int .u8 1))) := K5
    have HT : Bx (Calls Tryz.prog 17 #[.pointer (some ⟨g, 0, none⟩), .int .i64 4] (W4.setCell ⟨g, 3, none⟩ (.int .u8 1)) _) := ⟨text_any H5'.out 4 (by omega)⟩
    have HHo : Bx (R.host ((1, 4), r4) = r4.text 4) := ⟨rfl⟩
    clear H5 K5 H5'
    generalize r4.text 4 = x at *
    obtain ⟨x, r5⟩ := x
    dsimp only at *
    go_wp2_with fail
    refine HT.out.mono ?_
    rintro e W6 ⟨rfl, h6, k6⟩
    obtain ⟨c3, c4, c5, f3, f4, f5⟩ := h6.rest3
    obtain ⟨h7, k7⟩ := h6.set4 (.string (S x))
    have H7 := Bx.mk h7
    have K7 := Bx.mk (kp_trans (kp_trans K5'.out k6) k7)
    clear h6 k6 h7 k7 HT K5' c3 c5 f3 f5 HE
    obtain ⟨c3, c4, c5, f3, f4, f5⟩ := H7.out.rest3
    have HP := Bx.mk (port_any H7.out)
    clear c3 c4 f3 f4
    obtain ⟨⟨p, rp⟩, hpp⟩ : ∃ pp, R.port r5 = pp := ⟨_, rfl⟩
    rw [hpp] at HP
    have HPP := Bx.mk hpp
    clear hpp
    dsimp only at HP
    go_wp2_with fail
    refine HP.out.mono ?_
    rintro e W8 ⟨rfl, h8, k8⟩
    obtain ⟨c3, c4, c5, f3, f4, f5⟩ := h8.rest3
    obtain ⟨h9, k9⟩ := h8.set5 (.int .i64 (p : Int))
    have H9 := Bx.mk h9
    have K9 := Bx.mk (kp_trans (kp_trans K7.out k8) k9)
    clear h8 k8 h9 k9 H7 K7 HP c3 c4 f3 f4
    by_cases hp : p = 0
    · subst hp
      have H0 : Bx (Rd (W8.setCell ⟨g, 5, none⟩ (.int .i64 0)) _ _ _ _ _) := H9
      have K0 : Bx (Kp _ _ (W8.setCell ⟨g, 5, none⟩ (.int .i64 0))) := K9
      go_wp2_with fail
      refine (fail_any H0.out 6).mono ?_
      rintro e W9 ⟨rfl, h9, k9⟩
      have HX := Bx.mk h9
      have KX := Bx.mk (kp_trans K0.out k9)
      clear h9 k9 H0 K0 H9 K9
      go_wp2_with fail
      go_end0
      exact qto_zero HHo.out HPP.out rfl HX.out KX.out
    · have q : ((p : Int) == 0) = false := by simp; omega
      have HP0 := Bx.mk hp
      clear hp
      go_wp2_with fail
      go_end0
      exact qto_pos HHo.out HPP.out HP0.out H9.out K9.out
  · have H5' : Bx (Rd (W4.setCell ⟨g, 3, none⟩ (.int .u8 2)) B g 44 r4 [.int .u8 2, .string ⟨#[]⟩, .int .i64 0]) := H5
    have K5' : Bx (Kp g W (W4.setCell ⟨g, 3, none⟩ (.int .u8 2))) := K5
    have HT : Bx (Calls Tryz.prog 17 #[.pointer (some ⟨g, 0, none⟩), .int .i64 16] (W4.setCell ⟨g, 3, none⟩ (.int .u8 2)) _) := ⟨text_any H5'.out 16 (by omega)⟩
    have HHo : Bx (R.host ((2, 16), r4) = r4.text 16) := ⟨rfl⟩
    clear H5 K5 H5'
    generalize r4.text 16 = x at *
    obtain ⟨x, r5⟩ := x
    dsimp only at *
    go_wp2_with fail
    refine HT.out.mono ?_
    rintro e W6 ⟨rfl, h6, k6⟩
    obtain ⟨c3, c4, c5, f3, f4, f5⟩ := h6.rest3
    obtain ⟨h7, k7⟩ := h6.set4 (.string (S x))
    have H7 := Bx.mk h7
    have K7 := Bx.mk (kp_trans (kp_trans K5'.out k6) k7)
    clear h6 k6 h7 k7 HT K5' c3 c5 f3 f5 HE
    obtain ⟨c3, c4, c5, f3, f4, f5⟩ := H7.out.rest3
    have HP := Bx.mk (port_any H7.out)
    clear c3 c4 f3 f4
    obtain ⟨⟨p, rp⟩, hpp⟩ : ∃ pp, R.port r5 = pp := ⟨_, rfl⟩
    rw [hpp] at HP
    have HPP := Bx.mk hpp
    clear hpp
    dsimp only at HP
    go_wp2_with fail
    refine HP.out.mono ?_
    rintro e W8 ⟨rfl, h8, k8⟩
    obtain ⟨c3, c4, c5, f3, f4, f5⟩ := h8.rest3
    obtain ⟨h9, k9⟩ := h8.set5 (.int .i64 (p : Int))
    have H9 := Bx.mk h9
    have K9 := Bx.mk (kp_trans (kp_trans K7.out k8) k9)
    clear h8 k8 h9 k9 H7 K7 HP c3 c4 f3 f4
    by_cases hp : p = 0
    · subst hp
      have H0 : Bx (Rd (W8.setCell ⟨g, 5, none⟩ (.int .i64 0)) _ _ _ _ _) := H9
      have K0 : Bx (Kp _ _ (W8.setCell ⟨g, 5, none⟩ (.int .i64 0))) := K9
      go_wp2_with fail
      refine (fail_any H0.out 6).mono ?_
      rintro e W9 ⟨rfl, h9, k9⟩
      have HX := Bx.mk h9
      have KX := Bx.mk (kp_trans K0.out k9)
      clear h9 k9 H0 K0 H9 K9
      go_wp2_with fail
      go_end0
      exact qto_zero HHo.out HPP.out rfl HX.out KX.out
    · have q : ((p : Int) == 0) = false := by simp; omega
      have HP0 := Bx.mk hp
      clear hp
      go_wp2_with fail
      go_end0
      exact qto_pos HHo.out HPP.out HP0.out H9.out K9.out
  · have H5' : Bx (Rd (W4.setCell ⟨g, 3, none⟩ (.int .u8 3)) B g 44 r4 [.int .u8 3, .string ⟨#[]⟩, .int .i64 0]) := H5
    have K5' : Bx (Kp g W (W4.setCell ⟨g, 3, none⟩ (.int .u8 3))) := K5
    have HT : Bx (Calls Tryz.prog 18 #[.pointer (some ⟨g, 0, none⟩), .int .i64 (n : Int)] (W4.setCell ⟨g, 3, none⟩ (.int .u8 3)) _) := ⟨name_any H5'.out (HE.out _ K5'.out) (th := min n r4.l.length) (k := n - r4.l.length) (by omega) rfl rfl⟩
    have HHo : Bx (R.host ((3, n), r4) = r4.name n) := ⟨rfl⟩
    clear H5 K5 H5'
    generalize r4.name n = x at *
    obtain ⟨x, r5⟩ := x
    dsimp only at *
    go_wp2_with fail
    refine HT.out.mono ?_
    rintro e W6 ⟨rfl, h6, k6⟩
    obtain ⟨c3, c4, c5, f3, f4, f5⟩ := h6.rest3
    obtain ⟨h7, k7⟩ := h6.set4 (.string (S x))
    have H7 := Bx.mk h7
    have K7 := Bx.mk (kp_trans (kp_trans K5'.out k6) k7)
    clear h6 k6 h7 k7 HT K5' c3 c5 f3 f5 HE
    obtain ⟨c3, c4, c5, f3, f4, f5⟩ := H7.out.rest3
    have HP := Bx.mk (port_any H7.out)
    clear c3 c4 f3 f4
    obtain ⟨⟨p, rp⟩, hpp⟩ : ∃ pp, R.port r5 = pp := ⟨_, rfl⟩
    rw [hpp] at HP
    have HPP := Bx.mk hpp
    clear hpp
    dsimp only at HP
    go_wp2_with fail
    refine HP.out.mono ?_
    rintro e W8 ⟨rfl, h8, k8⟩
    obtain ⟨c3, c4, c5, f3, f4, f5⟩ := h8.rest3
    obtain ⟨h9, k9⟩ := h8.set5 (.int .i64 (p : Int))
    have H9 := Bx.mk h9
    have K9 := Bx.mk (kp_trans (kp_trans K7.out k8) k9)
    clear h8 k8 h9 k9 H7 K7 HP c3 c4 f3 f4
    by_cases hp : p = 0
    · subst hp
      have H0 : Bx (Rd (W8.setCell ⟨g, 5, none⟩ (.int .i64 0)) _ _ _ _ _) := H9
      have K0 : Bx (Kp _ _ (W8.setCell ⟨g, 5, none⟩ (.int .i64 0))) := K9
      go_wp2_with fail
      refine (fail_any H0.out 6).mono ?_
      rintro e W9 ⟨rfl, h9, k9⟩
      have HX := Bx.mk h9
      have KX := Bx.mk (kp_trans K0.out k9)
      clear h9 k9 H0 K0 H9 K9
      go_wp2_with fail
      go_end0
      exact qto_zero HHo.out HPP.out rfl HX.out KX.out
    · have q : ((p : Int) == 0) = false := by simp; omega
      have HP0 := Bx.mk hp
      clear hp
      go_wp2_with fail
      go_end0
      exact qto_pos HHo.out HPP.out HP0.out H9.out K9.out
  · have H7 : Bx (Rd (W4.setCell ⟨g, 3, none⟩ (.int .u8 0)) B g 44 r4 [.int .u8 0, .string ⟨#[]⟩, .int .i64 0]) := H5
    have K7 : Bx (Kp g W (W4.setCell ⟨g, 3, none⟩ (.int .u8 0))) := K5
    have HHo : Bx (R.host ((0, 0), r4) = ([], r4)) := ⟨rfl⟩
    clear H5 K5 HE
    obtain ⟨c3, c4, c5, f3, f4, f5⟩ := H7.out.rest3
    have HP := Bx.mk (port_any H7.out)
    clear c3 c4 f3 f4
    obtain ⟨⟨p, rp⟩, hpp⟩ : ∃ pp, R.port r4 = pp := ⟨_, rfl⟩
    rw [hpp] at HP
    have HPP := Bx.mk hpp
    clear hpp
    dsimp only at HP
    go_wp2_with fail
    refine HP.out.mono ?_
    rintro e W8 ⟨rfl, h8, k8⟩
    obtain ⟨c3, c4, c5, f3, f4, f5⟩ := h8.rest3
    obtain ⟨h9, k9⟩ := h8.set5 (.int .i64 (p : Int))
    have H9 := Bx.mk h9
    have K9 := Bx.mk (kp_trans (kp_trans K7.out k8) k9)
    clear h8 k8 h9 k9 H7 K7 HP c3 c4 f3 f4
    by_cases hp : p = 0
    · subst hp
      have H0 : Bx (Rd (W8.setCell ⟨g, 5, none⟩ (.int .i64 0)) _ _ _ _ _) := H9
      have K0 : Bx (Kp _ _ (W8.setCell ⟨g, 5, none⟩ (.int .i64 0))) := K9
      go_wp2_with fail
      refine (fail_any H0.out 6).mono ?_
      rintro e W9 ⟨rfl, h9, k9⟩
      have HX := Bx.mk h9
      have KX := Bx.mk (kp_trans K0.out k9)
      clear h9 k9 H0 K0 H9 K9
      go_wp2_with fail
      go_end0
      exact qto_zero HHo.out HPP.out rfl HX.out KX.out
    · have q : ((p : Int) == 0) = false := by simp; omega
      have HP0 := Bx.mk hp
      clear hp
      go_wp2_with fail
      go_end0
      exact qto_pos HHo.out HPP.out HP0.out H9.out K9.out

/-- what Take gives -/
def TakeTo (x : TK) (w : World) (e : Ending) (w' : World) : Prop := Gives (.tuple #[tv (x.kind : Int) (S x.text) (x.port : Int), .int .i64 (x.n : Int), .int .i64 (x.e : Int)]) w e w'
structure QAt (w W1 : World) (g : Nat) (r : R) (k : Nat) (x : ByteArray) (p : Nat) : Prop where
  rd : Rd W1 w.heap.size g 44 r [.int .u8 (k : Int), .string x, .int .i64 (p : Int)]
  res : Lies W1 w.heap.size 25 #[.int .u8 0, .string ⟨#[]⟩, .int .i64 0]
  below : Below w.heap.size w W1
  ne : w.heap.size ≠ g
theorem take_start {w : World} {ok : Nat → Prop} {A : Option Addr} {n c : Nat} {b : Str} (hs : Spell w ok A n c b) (hok : ∀ g, ok g → g < w.heap.size) (hn : n ≤ 100000) {W : World}
    (hW : W = (w.alloc (.cells #[.int .u8 0, .string ⟨#[]⟩, .int .i64 0] 25)).alloc (.cells #[.slice A n c, .int .i64 0, .int .i64 0, .int .u8 0, .string ⟨#[]⟩, .int .i64 0] 44)) :
    Rd W w.heap.size (w.heap.size + 1) 44 ⟨b, 0, 0⟩ [.int .u8 0, .string ⟨#[]⟩, .int .i64 0] ∧ Below w.heap.size w W ∧ Lies W w.heap.size 25 #[.int .u8 0, .string ⟨#[]⟩, .int .i64 0] := by
  subst hW
  have hbl := spell_len hs
  have hb : Below w.heap.size w ((w.alloc (.cells #[.int .u8 0, .string ⟨#[]⟩, .int .i64 0] 25)).alloc (.cells #[.slice A n c, .int .i64 0, .int .i64 0, .int .u8 0, .string ⟨#[]⟩, .int .i64 0] 44)) := ((Below.refl _ _).alloc (Nat.le_refl _) _).alloc (by simp) _
  have h2 := Lies.new (w.alloc (.cells #[.int .u8 0, .string ⟨#[]⟩, .int .i64 0] 25)) 44 #[.slice A n c, .int .i64 0, .int .i64 0, .int .u8 0, .string ⟨#[]⟩, .int .i64 0]
  have z1 : (w.alloc (.cells #[.int .u8 0, .string ⟨#[]⟩, .int .i64 0] 25)).heap.size = w.heap.size + 1 := by simp
  rw [z1] at h2
  subst hbl
  exact ⟨⟨⟨A, c, h2, (hs.below hb hok).weak hok⟩, by omega, by show 0 + b.length ≤ _; omega⟩, hb, (Lies.new w _ _).alloc _⟩
theorem results_take {W : World} {h : Nat} {x y z : Value} (c0 : W.cell? ⟨h, 0, none⟩ = some x) (c1 : W.cell? ⟨h, 1, none⟩ = some y) (c2 : W.cell? ⟨h, 2, none⟩ = some z) (tmps : Array Value) (h2 : tmps[2]?.getD undef = .pointer (some ⟨h, 0, none⟩)) {v3 v4 : Value} (h3 : tmps[3]?.getD undef = v3) (h4 : tmps[4]?.getD undef = v4) :
    (results Tryz.f6 tmps).run Tryz.prog W = .ok (.tuple #[.agg #[x, y, z], v3, v4]) W := by
  simp [results, Tryz.results6, go_sem, h2, h3, h4, c0, c1, c2]
set_option maxHeartbeats 4000000 in
set_option maxRecDepth 100000 in
theorem take_any {w : World} {ok : Nat → Prop} {A : Option Addr} {n c : Nat} {b : Str} (hs : Spell w ok A n c b) (hok : ∀ g, ok g → g < w.heap.size) (hn : n ≤ 100000) (he : Env w) : Calls Tryz.prog 6 #[.slice A n c] w (TakeTo (tk b) w) := by
  rw [← take_tk]
  obtain ⟨X, hX⟩ : ∃ X, R.take b = X := ⟨_, rfl⟩
  rw [hX]
  unfold R.take R.mid R.fin at hX
  have HX := Bx.mk hX
  clear hX
  have HST := Bx.mk (@take_start w ok A n c b hs hok hn)
  have HE := Bx.mk he
  clear hs hok he
  go_enter Tryz.func6, Tryz.ntmps6
  go_upto_region 2 with fail
  obtain ⟨W, hW⟩ : ∃ W, W = (w.alloc (.cells #[.int .u8 0, .string ⟨#[]⟩, .int .i64 0] 25)).alloc (.cells #[.slice A n c, .int .i64 0, .int .i64 0, .int .u8 0, .string ⟨#[]⟩, .int .i64 0] 44) := ⟨_, rfl⟩
  obtain ⟨h1, b1, l1⟩ := HST.out hW
  rw [← hW]
  clear hW HST
  have HQ := Bx.mk (qtake_any h1 HE.out b1 (Nat.le_refl _) (by omega))
  have HL := Bx.mk l1
  have HB := Bx.mk b1
  have hWs : w.heap.size + 1 < W.heap.size := h1.lt
  clear h1 b1 l1
  generalize (R.head b).addr 141 = a at *
  go_wp2_with fail
  refine HQ.out.mono ?_
  rintro e W1 ⟨rfl, h2, k2⟩
  have hB1 : Below w.heap.size w W1 := HB.out.trans (kp_to k2 (by omega) HB.out.size)
  have hl1 : Lies W1 w.heap.size 25 #[.int .u8 0, .string ⟨#[]⟩, .int .i64 0] := kp_lies k2 HL.out (by omega)
  clear k2 HQ HL HB hWs HE
  generalize hr : (R.host a).2.lastF = r at *
  generalize (R.host a).2.port.1 = p at *
  generalize (R.host a).1 = x at *
  generalize a.1.1 = k at *
  obtain ⟨A2, c2, hl2, hs2, _, d1, d2, _, _, _⟩ := h2.cells
  obtain ⟨e3, e4, e5, _, _, _⟩ := h2.rest3
  have t0 := hl1.cell 0
  have t1 := hl1.cell 1
  have t2 := hl1.cell 2
  have tf := fun i => hl1.frozen i
  simp at t0 t1 t2
  have HB1 := Bx.mk hB1
  have HL1 := Bx.mk hl1
  clear hr h2 hs2 hl2 hB1 hl1 W
  by_cases hf : r.f = 0
  · have eX := HX.out
    rw [if_neg (by omega)] at eX
    subst eX
    have d2' : W1.cell? ⟨w.heap.size + 1, 2, none⟩ = some (.int .i64 0) := by rw [d2, hf]; rfl
    clear hf d2 HX
    have HF := Bx.mk (((HL1.out.set 0 (.int .u8 (k : Int))).set 1 (.string (S x))).set 2 (.int .i64 (p : Int)))
    have HG := Bx.mk (((HB1.out.setCell (p := ⟨w.heap.size, 0, none⟩) (Nat.le_refl _) (.int .u8 (k : Int))).setCell (p := ⟨w.heap.size, 1, none⟩) (Nat.le_refl _) (.string (S x))).setCell (p := ⟨w.heap.size, 2, none⟩) (Nat.le_refl _) (.int .i64 (p : Int)))
    clear HL1 HB1
    go_wp2_with fail
    go_region
    all_goals
      go_wp2_with fail
      have hf := HF.out.drew
      exact bodyPost_ret (results_take (x := .int .u8 (k : Int)) (y := .string (S x)) (z := .int .i64 (p : Int)) (by rw [hf.cell]; simp) (by rw [hf.cell]; simp) (by rw [hf.cell]; simp) _ rfl rfl rfl) rfl ⟨rfl, HG.out.drew⟩
  · have eX := HX.out
    rw [if_pos hf] at eX
    subst eX
    have q : ((r.f : Int) != 0) = true := by simp; omega
    clear HX hf
    have HF := Bx.mk (((HL1.out.set 0 (.int .u8 0)).set 1 (.string ⟨#[]⟩)).set 2 (.int .i64 0))
    have HG := Bx.mk (((HB1.out.setCell (p := ⟨w.heap.size, 0, none⟩) (Nat.le_refl _) (.int .u8 0)).setCell (p := ⟨w.heap.size, 1, none⟩) (Nat.le_refl _) (.string ⟨#[]⟩)).setCell (p := ⟨w.heap.size, 2, none⟩) (Nat.le_refl _) (.int .i64 0))
    clear HL1 HB1
    go_wp2_with fail
    go_region
    all_goals
      go_wp2_with fail
      have hf := HF.out.drew
      exact bodyPost_ret (results_take (x := .int .u8 0) (y := .string ⟨#[]⟩) (z := .int .i64 0) (by rw [hf.cell]; simp) (by rw [hf.cell]; simp) (by rw [hf.cell]; simp) _ rfl rfl rfl) rfl ⟨rfl, HG.out.drew⟩
end Go.Proofs.YtefpplkoohnfbabGreatDoor.ak
