/-
  Given for the seat's laws: what an outcome, a trial given back, a request do to a record: counts, good, bad, back, Try. No condition but those of the theorems.
-/
import Derived.Test.YtpidjekabnnmcaaHFind
import Derived.Test.YtpidjekabnnmcaaRegS
namespace Go.Proofs.Ytpidjekabnnmcaa.hp
open Go.RowKit mem find pb
set_option linter.unusedVariables false

def cnt (x : RD) (now : Int) (t : Bool) : Bool := if t then x.br.tr else decide (bk.st x.br now = 0)
def goodR (x : RD) (now : Int) (t : Bool) : RD := if cnt x now t then (if t then { x with br := bk.goodb x.br true, wi := 0 } else { x with wi := wn.addw x.wi true }) else x
def badW (x : RD) (t : Bool) : Nat := if t then x.wi else wn.addw x.wi false
def badR (x : RD) (now cool fails : Int) (t : Bool) : RD := if cnt x now t then { x with wi := badW x t, br := bk.badb x.br now cool t (decide (fails ≤ (wn.bads (wn.lst (badW x t)) : Int))) } else x
def backR (x : RD) (t : Bool) : RD := { x with br := bk.backb x.br t }

/-- a world where only one block has turned -/
abbrev Only (b : Nat) (w w' : World) : Prop := Keep w.heap.size (fun g => g = b) w w'
theorem only_set {b : Nat} {w w' : World} (h : Only b w w') (j : Nat) (u : Value) : Only b w (w'.setCell ⟨b, j, none⟩ u) := h.setCell (.inr rfl) u
theorem only_refl (b : Nat) (w : World) : Only b w w := Keep.refl _ _ _
theorem only_below {b : Nat} {w w' w'' : World} (h : Only b w w') (hb : Below w'.heap.size w' w'') : Only b w w'' := h.trans (Keep.of_below (hb.mono h.size) _)
theorem only_from {b : Nat} {w w' w'' : World} (hb : Below w.heap.size w w') (h : Only b w' w'') : Only b w w'' := (Keep.of_below hb _).trans (h.mono hb.size (fun _ _ e => e))
theorem put_br {w : World} {b : Nat} {x : RD} (h : Lies w b 79 (rcs x)) (y : bk.Bk) :
    Lies ((((w.setCell ⟨b, 7, none⟩ (.bool y.op)).setCell ⟨b, 8, none⟩ (.int .i64 y.si)).setCell ⟨b, 9, none⟩ (.int .i64 y.sp)).setCell ⟨b, 10, none⟩ (.bool y.tr)) b 79 (rcs { x with br := y }) ∧
    Only b w ((((w.setCell ⟨b, 7, none⟩ (.bool y.op)).setCell ⟨b, 8, none⟩ (.int .i64 y.si)).setCell ⟨b, 9, none⟩ (.int .i64 y.sp)).setCell ⟨b, 10, none⟩ (.bool y.tr)) :=
  ⟨(((h.set 7 _).set 8 _).set 9 _).set 10 _, only_set (only_set (only_set (only_set (only_refl b w) 7 _) 8 _) 9 _) 10 _⟩
theorem put_wi {w : World} {b : Nat} {x : RD} (h : Lies w b 79 (rcs x)) (n : Nat) : Lies (w.setCell ⟨b, 6, none⟩ (.int .u16 (n : Int))) b 79 (rcs { x with wi := n }) ∧ Only b w (w.setCell ⟨b, 6, none⟩ (.int .u16 (n : Int))) :=
  ⟨h.set 6 _, only_set (only_refl b w) 6 _⟩

set_option maxHeartbeats 1000000 in
theorem counts_any {w : World} {b : Nat} {x : RD} (hl : Lies w b 79 (rcs x)) (now : Int) (t : Bool) : Calls Try.prog 57 #[bp b, .int .i64 now, .bool t] w fun e w' => e = .returned (.bool (cnt x now t)) ∧ Below w.heap.size w w' := by
  have c7 := hl.cell 7
  have c8 := hl.cell 8
  have c9 := hl.cell 9
  have c10 := hl.cell 10
  simp at c7 c8 c9 c10
  have HS := bk.Bx.mk (bk.state_any x.br now)
  clear hl
  cases t with
  | true =>
    go_enter Try.func57, Try.ntmps57
    go_wp2_with fail
    go_ret
    exact ⟨rfl, Below.refl _ _⟩
  | false =>
    unfold cnt bk.Gv at *
    generalize bk.st x.br now = z at *
    go_enter Try.func57, Try.ntmps57
    go_wp2_with fail
    refine (HS.out _).mono ?_
    rintro e w2 ⟨rfl, hg⟩
    have hb := hg.below
    clear hg HS
    go_wp2_with fail
    go_ret
    exact ⟨by simp; rfl, hb⟩

/-- what is known of a record that a function turns -/
structure Rec1 (w : World) (r b : Nat) (D : HD) (x : RD) : Prop where
  rc : Lies w b 79 (rcs x)
  h1 : w.cell? ⟨r, 1, none⟩ = some (.int .i64 D.now)
  h2 : w.cell? ⟨r, 2, none⟩ = some (.int .i64 D.fails)
  h3 : w.cell? ⟨r, 3, none⟩ = some (.int .i64 D.cool)
  ne : r ≠ b
  lt : r < w.heap.size
theorem Rec1.below {w w' : World} {r b : Nat} {D : HD} {x : RD} (h : Rec1 w r b D x) (hb : Below w.heap.size w w') : Rec1 w' r b D x :=
  ⟨h.rc.below hb h.rc.lt, (hb.cell (p := ⟨r, 1, none⟩) h.lt).trans h.h1, (hb.cell (p := ⟨r, 2, none⟩) h.lt).trans h.h2, (hb.cell (p := ⟨r, 3, none⟩) h.lt).trans h.h3, h.ne, Nat.lt_of_lt_of_le h.lt hb.size⟩
theorem rec1_only {w w' : World} {r b : Nat} {D : HD} {x x' : RD} (h : Rec1 w r b D x) (hk : Only b w w') (hl : Lies w' b 79 (rcs x')) : Rec1 w' r b D x' := by
  have e : w'.heap[r]? = w.heap[r]? := hk.block r h.lt h.ne
  exact ⟨hl, (World.cell?_of_block e).trans h.h1, (World.cell?_of_block e).trans h.h2, (World.cell?_of_block e).trans h.h3, h.ne, Nat.lt_of_lt_of_le h.lt hk.size⟩
/-- what a function leaves that turns a record -/
structure Done1 (b : Nat) (x' : RD) (w : World) (e : Ending) (w' : World) : Prop where
  eq : e = .returned (.tuple #[])
  rc : Lies w' b 79 (rcs x')
  only : Only b w w'

set_option maxHeartbeats 2000000 in
theorem back_any {w : World} {r b : Nat} {D : HD} {x : RD} (h : Rec1 w r b D x) (t : Bool) : Calls Try.prog 38 #[bp r, bp b, .bool t] w (Done1 b (backR x t) w) := by
  have c7 := h.rc.cell 7
  have c8 := h.rc.cell 8
  have c9 := h.rc.cell 9
  have c10 := h.rc.cell 10
  simp at c7 c8 c9 c10
  have HB := bk.Bx.mk (bk.back_any x.br t)
  have HL := bk.Bx.mk h.rc
  clear h
  unfold backR bk.Gv at *
  generalize bk.backb x.br t = y at *
  go_enter Try.func38, Try.ntmps38
  go_wp2_with fail
  refine (HB.out _).mono ?_
  rintro e w2 ⟨rfl, hg⟩
  have hb := hg.below
  have hl2 := HL.out.below hb HL.out.lt
  obtain ⟨p1, p2⟩ := put_br hl2 y
  have HE : bk.Bx _ := ⟨(⟨rfl, p1, only_from hb p2⟩ : Done1 b { x with br := y } w (.returned (.tuple #[])) _)⟩
  have f := fun i => hl2.frozen i
  have d7 := hl2.cell 7
  have d8 := hl2.cell 8
  have d9 := hl2.cell 9
  have d10 := hl2.cell 10
  simp at d7 d8 d9 d10
  clear hg hb hl2 p1 p2 HB HL c7 c8 c9 c10
  go_wp2_with fail
  refine bodyPost_ret (v := .tuple #[]) (by simp [results, Try.results38, go_sem]) rfl ?_
  exact HE.out

/-! ### good -/
theorem addw_lt (x : Nat) (g : Bool) : wn.addw x g < 65536 := by
  unfold wn.addw
  omega
set_option maxHeartbeats 4000000 in
theorem good_any {w : World} {r b : Nat} {D : HD} {x : RD} (h : Rec1 w r b D x) (hw : x.wi < 65536) (t : Bool) : Calls Try.prog 36 #[bp r, bp b, .bool t] w (Done1 b (goodR x D.now t) w) := by
  have HC := bk.Bx.mk (counts_any h.rc D.now t)
  have c1 := h.h1
  have HH := bk.Bx.mk h
  have HG := bk.Bx.mk (bk.good_any x.br t)
  have HW := bk.Bx.mk (wn.add_any x.wi hw true)
  clear h
  obtain ⟨x', hx'⟩ : ∃ x', x' = goodR x D.now t := ⟨_, rfl⟩
  rw [← hx']
  unfold goodR at hx'
  unfold bk.Gv wn.Pure at *
  generalize cnt x D.now t = cc at *
  have HX := bk.Bx.mk hx'
  clear hx'
  go_enter Try.func36, Try.ntmps36
  go_wp2_with fail
  refine HC.out.mono ?_
  rintro e w1 ⟨rfl, hb1⟩
  have h1 := HH.out.below hb1
  have HB1 := bk.Bx.mk hb1
  have H1 := bk.Bx.mk h1
  clear HC HH hb1 c1
  cases cc with
  | false =>
    have hxx : x' = x := by have := HX.out; simpa using this
    have HE : bk.Bx (Done1 b x' w (.returned (.tuple #[])) w1) := ⟨by rw [hxx]; exact ⟨rfl, h1.rc, only_from HB1.out (only_refl b w1)⟩⟩
    clear h1 hxx HX
    go_wp2_with fail
    refine bodyPost_ret (v := .tuple #[]) (by simp [results, Try.results36, go_sem]) rfl ?_
    exact HE.out
  | true =>
    cases t with
    | true =>
      have d7 := h1.rc.cell 7
      have d8 := h1.rc.cell 8
      have d9 := h1.rc.cell 9
      have d10 := h1.rc.cell 10
      simp at d7 d8 d9 d10
      clear h1
      have hxx : x' = { { x with br := bk.goodb x.br true } with wi := 0 } := by have := HX.out; simpa using this
      clear HX
      generalize bk.goodb x.br true = y at *
      have HXX := bk.Bx.mk hxx
      clear hxx
      go_wp2_with fail
      refine (HG.out _).mono ?_
      rintro e w2 ⟨rfl, hg⟩
      have hb2 := hg.below
      have h2 := H1.out.below hb2
      obtain ⟨p1, p2⟩ := put_br h2.rc y
      obtain ⟨q1, q2⟩ := put_wi p1 0
      have HE : bk.Bx (Done1 b x' w (.returned (.tuple #[])) _) := ⟨by rw [HXX.out]; exact ⟨rfl, q1, only_from HB1.out (only_from hb2 (p2.trans (q2.mono p2.size (fun _ _ e => e))))⟩⟩
      have hl2 := h2.rc
      have f := fun i => hl2.frozen i
      have d6 := hl2.cell 6
      have d7 := hl2.cell 7
      have d8 := hl2.cell 8
      have d9 := hl2.cell 9
      have d10 := hl2.cell 10
      simp at d6 d7 d8 d9 d10
      clear hg hb2 h2 hl2 p1 p2 q1 q2 HG HW H1 HB1
      go_wp2_with fail
      refine bodyPost_ret (v := .tuple #[]) (by simp [results, Try.results36, go_sem]) rfl ?_
      exact HE.out
    | false =>
      have d6 := h1.rc.cell 6
      simp at d6
      clear h1
      have hxx : x' = { x with wi := wn.addw x.wi true } := by have := HX.out; simpa using this
      clear HX
      generalize wn.addw x.wi true = z at *
      have HXX := bk.Bx.mk hxx
      clear hxx
      go_wp2_with fail
      refine (HW.out _).mono ?_
      rintro e w2 ⟨rfl, hg⟩
      have hb2 := hg.below w1.heap.size
      have h2 := H1.out.below hb2
      obtain ⟨q1, q2⟩ := put_wi h2.rc z
      have HE : bk.Bx (Done1 b x' w (.returned (.tuple #[])) _) := ⟨by rw [HXX.out]; exact ⟨rfl, q1, only_from HB1.out (only_from hb2 q2)⟩⟩
      have hl2 := h2.rc
      have f := fun i => hl2.frozen i
      have d6 := hl2.cell 6
      have d7 := hl2.cell 7
      have d8 := hl2.cell 8
      have d9 := hl2.cell 9
      have d10 := hl2.cell 10
      simp at d6 d7 d8 d9 d10
      clear hg hb2 h2 hl2 q1 q2 HG HW H1 HB1
      go_wp2_with fail
      refine bodyPost_ret (v := .tuple #[]) (by simp [results, Try.results36, go_sem]) rfl ?_
      exact HE.out

/-! ### bad -/
set_option maxHeartbeats 8000000 in
theorem bad_any {w : World} {r b : Nat} {D : HD} {x : RD} (h : Rec1 w r b D x) (hw : x.wi < 65536) (t : Bool) : Calls Try.prog 37 #[bp r, bp b, .bool t] w (Done1 b (badR x D.now D.cool D.fails t) w) := by
  have hmix : Try.prog.follows .mixedOrders = true := by kernel_rfl
  have HC := bk.Bx.mk (counts_any h.rc D.now t)
  have c1 := h.h1
  have HH := bk.Bx.mk h
  have hw2 : badW x t < 65536 := by
    unfold badW
    cases t with
    | true => exact hw
    | false => exact addw_lt _ _
  have HWB := bk.Bx.mk (wn.bad_any (badW x t) hw2)
  have HW := bk.Bx.mk (wn.add_any x.wi hw false)
  clear h
  obtain ⟨x', hx'⟩ : ∃ x', x' = badR x D.now D.cool D.fails t := ⟨_, rfl⟩
  rw [← hx']
  unfold badR at hx'
  have hu : ∃ u, u = decide (D.fails ≤ (wn.bads (wn.lst (badW x t)) : Int)) := ⟨_, rfl⟩
  obtain ⟨u0, hu0⟩ := hu
  rw [← hu0] at hx'
  have HBB := bk.Bx.mk (bk.bad_any x.br D.now D.cool t u0)
  have HU := bk.Bx.mk hu0
  unfold bk.Gv bk.bw at HBB
  unfold wn.Pure at HW
  generalize bk.badb x.br D.now D.cool t u0 = y at *
  generalize (if bk.badE x.br D.now D.cool then (2 : Int) else 0) = er at *
  generalize wn.bads (wn.lst (badW x t)) = nb at *
  generalize cnt x D.now t = cc at *
  have HX := bk.Bx.mk hx'
  clear hu0 hx'
  go_enter Try.func37, Try.ntmps37
  go_wp2_with fail
  refine HC.out.mono ?_
  rintro e w1 ⟨rfl, hb1⟩
  have h1 := HH.out.below hb1
  have HB1 := bk.Bx.mk hb1
  have H1 := bk.Bx.mk h1
  clear HC HH hb1 c1
  cases cc with
  | false =>
    have hxx : x' = x := by have := HX.out; simpa using this
    have HE : bk.Bx (Done1 b x' w (.returned (.tuple #[])) w1) := ⟨by rw [hxx]; exact ⟨rfl, h1.rc, only_from HB1.out (only_refl b w1)⟩⟩
    clear h1 hxx HX
    go_wp2_with fail
    refine bodyPost_ret (v := .tuple #[]) (by simp [results, Try.results37, go_sem]) rfl ?_
    exact HE.out
  | true =>
    have hxx : x' = { { x with wi := badW x t } with br := y } := by have := HX.out; simpa using this
    have HXX := bk.Bx.mk hxx
    clear HX hxx
    cases t with
    | true =>
      have h2 := h1
      have o2 : Only b w w1 := only_from HB1.out (only_refl b w1)
      clear h1
      go_wp2_with fail
      generalize hw2 : w1 = w2 at *
      have a1 := fun u => qt.bel_cell h2.h1 u
      have a2 := fun u => qt.bel_cell h2.h2 u
      have a3 := fun u => qt.bel_cell h2.h3 u
      have a6 := fun u => qt.bel_cell (h2.rc.cell 6) u
      have a7 := fun u => qt.bel_cell (h2.rc.cell 7) u
      have a8 := fun u => qt.bel_cell (h2.rc.cell 8) u
      have a9 := fun u => qt.bel_cell (h2.rc.cell 9) u
      have a10 := fun u => qt.bel_cell (h2.rc.cell 10) u
      simp at a1 a2 a3 a6 a7 a8 a9 a10
      have H2 := bk.Bx.mk h2
      have O2 := bk.Bx.mk o2
      clear h2 o2 hw2
      refine qt.region_bel_store 1 26 28 hmix (by decide +kernel) (fun c a w d v h => by cases d <;> exact h) ?_
      simp only [List.take_succ_cons, List.take_zero, List.drop_succ_cons, List.drop_zero]
      repeat (go_big_quiet_step (first
        | (go_at_call 61; exact qt.bel_call _ HWB.out)
        | (go_at_call 60; exact qt.bel_call _ (fun W => by have hh := HU.out; rw [hh] at HBB; exact (HBB.out W).mono fun e w' ⟨he, hg⟩ => ⟨he, hg.below⟩))))
      refine wpQuiet_nil ?_
      rintro w4 ⟨u, rfl⟩
      have h4 := H2.out.below u.b
      obtain ⟨p1, p2⟩ := put_br h4.rc y
      have HE : bk.Bx (Done1 b x' w (.returned (.tuple #[])) _) := ⟨by rw [HXX.out]; exact ⟨rfl, p1, (only_below O2.out u.b).trans (p2.mono (by have := O2.out.size; have := u.b.size; omega) (fun _ _ e => e))⟩⟩
      have hl2 := h4.rc
      generalize u.w' = w4 at *
      have f := fun i => hl2.frozen i
      have d6 := hl2.cell 6
      have d7 := hl2.cell 7
      have d8 := hl2.cell 8
      have d9 := hl2.cell 9
      have d10 := hl2.cell 10
      simp at d6 d7 d8 d9 d10
      clear h4 hl2 p1 p2 H2 O2 HU HBB HWB a1 a2 a3 a6 a7 a8 a9 a10
      go_wp2_with fail
      refine bodyPost_ret (v := .tuple #[]) (by simp [results, Try.results37, go_sem]) rfl ?_
      exact HE.out
    | false =>
      have d6 := h1.rc.cell 6
      simp at d6
      clear h1
      have hz : badW x false = wn.addw x.wi false := rfl
      rw [hz] at HXX HWB
      clear hz hw2
      generalize wn.addw x.wi false = z at *
      go_wp2_with fail
      refine (HW.out _).mono ?_
      rintro e w1' ⟨rfl, hg⟩
      have hb2 := hg.below w1.heap.size
      have h1' := H1.out.below hb2
      obtain ⟨q1, q2⟩ := put_wi h1'.rc z
      have h2 := rec1_only h1' q2 q1
      have o2 := only_from HB1.out (only_from hb2 q2)
      have f := fun i => h1'.rc.frozen i
      have d6 := h1'.rc.cell 6
      simp at d6
      have H2 := bk.Bx.mk h2
      have O2 := bk.Bx.mk o2
      clear hg hb2 h1' q1 q2 HW H1 HB1 h2 o2
      go_wp2_with fail
      have h2 := H2.out
      have o2 := O2.out
      clear H2 O2 f d6
      have a1 := fun u => qt.bel_cell h2.h1 u
      have a2 := fun u => qt.bel_cell h2.h2 u
      have a3 := fun u => qt.bel_cell h2.h3 u
      have a6 := fun u => qt.bel_cell (h2.rc.cell 6) u
      have a7 := fun u => qt.bel_cell (h2.rc.cell 7) u
      have a8 := fun u => qt.bel_cell (h2.rc.cell 8) u
      have a9 := fun u => qt.bel_cell (h2.rc.cell 9) u
      have a10 := fun u => qt.bel_cell (h2.rc.cell 10) u
      simp at a1 a2 a3 a6 a7 a8 a9 a10
      have H2 := bk.Bx.mk h2
      have O2 := bk.Bx.mk o2
      clear h2 o2
      refine qt.region_bel_store 1 26 28 hmix (by decide +kernel) (fun c a w d v h => by cases d <;> exact h) ?_
      simp only [List.take_succ_cons, List.take_zero, List.drop_succ_cons, List.drop_zero]
      repeat (go_big_quiet_step (first
        | (go_at_call 61; exact qt.bel_call _ HWB.out)
        | (go_at_call 60; exact qt.bel_call _ (fun W => by have hh := HU.out; rw [hh] at HBB; exact (HBB.out W).mono fun e w' ⟨he, hg⟩ => ⟨he, hg.below⟩))))
      refine wpQuiet_nil ?_
      rintro w4 ⟨u, rfl⟩
      have h4 := H2.out.below u.b
      obtain ⟨p1, p2⟩ := put_br h4.rc y
      have HE : bk.Bx (Done1 b x' w (.returned (.tuple #[])) _) := ⟨by rw [HXX.out]; exact ⟨rfl, p1, (only_below O2.out u.b).trans (p2.mono (by have := O2.out.size; have := u.b.size; omega) (fun _ _ e => e))⟩⟩
      have hl2 := h4.rc
      generalize u.w' = w4 at *
      have f := fun i => hl2.frozen i
      have d6 := hl2.cell 6
      have d7 := hl2.cell 7
      have d8 := hl2.cell 8
      have d9 := hl2.cell 9
      have d10 := hl2.cell 10
      simp at d6 d7 d8 d9 d10
      clear h4 hl2 p1 p2 H2 O2 HU HBB HWB a1 a2 a3 a6 a7 a8 a9 a10
      go_wp2_with fail
      refine bodyPost_ret (v := .tuple #[]) (by simp [results, Try.results37, go_sem]) rfl ?_
      exact HE.out
end Go.Proofs.Ytpidjekabnnmcaa.hp
