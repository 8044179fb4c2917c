/-
  Given for the seat's laws: the contract of find: where a key's row stands, or would. No condition but those of the theorem.
-/
import Derived.Test.YtpidjekabnnmcaaQKeys1
namespace Go.Proofs.Ytpidjekabnnmcaa.pl
open Go.RowKit Go.Shelf mem find pb reg
set_option linter.unusedVariables false
attribute [local go_sem] Oper.semAt_some

section
variable {W W' : World} {B : Nat} {row : Option Nat}
theorem lies_own {g : Nat} {t : TypeId} {cs : Array Value} (h : Lies W g t cs) (hg : W.grownBy W' row) (hr : ∀ r, row = some r → B ≤ r ∧ ∃ o : Obj, W.heap[r]? = some o ∧ o.isCells = false) : Lies W' g t cs :=
  h.grown hg (fun e => by
    obtain ⟨_, o, ho, hc⟩ := hr g e.symm
    unfold Lies at h
    rw [h] at ho
    cases ho
    cases hc)
theorem below_own {w : World} (h : Below w.heap.size w W) (hB : w.heap.size ≤ B) (hg : W.grownBy W' row) (hr : ∀ r, row = some r → B ≤ r ∧ ∃ o : Obj, W.heap[r]? = some o ∧ o.isCells = false) : Below w.heap.size w W' :=
  ⟨hg.os.trans h.os, hg.tape.trans h.tape, hg.output.trans h.output, Nat.le_trans h.size hg.size, fun k hk => (hg.block k (by have := h.size; omega) (fun e => by have := (hr k e.symm).1; omega)).trans (h.block k hk)⟩
theorem keepsFrom_below {W W' : World} (h : Below W.heap.size W W') (B : Nat) : KeepsFrom B W W' := ⟨h.size, fun k o _ hk _ => (h.block k (Array.getElem?_eq_some_iff.1 hk).1).trans hk⟩
theorem keepsFrom_keep {W W' : World} {S : Nat → Prop} (h : Keep W.heap.size S W W') {B : Nat} (hS : ∀ g, S g → g < B) : KeepsFrom B W W' :=
  ⟨h.size, fun k o hB hk _ => (h.block k (Array.getElem?_eq_some_iff.1 hk).1 (fun e => by have := hS k e; omega)).trans hk⟩
end

/-- while find goes through the rows: j are behind it, all of lesser keys -/
structure FI (w : World) (r : Nat) (key : Int) (R : List (Int × Int)) (j : Nat) (W : World) : Prop where
  below : Below w.heap.size w W
  b3 : Lies W w.heap.size 3 #[.int .i64 key]
  b4 : Lies W (w.heap.size + 1) 3 #[.int .i64 0]
  b5 : Lies W (w.heap.size + 1 + 1) 4 #[.bool false]
  bo : Lies W (w.heap.size + 1 + 1 + 1) 33 #[.pointer (some ⟨r, 0, none⟩)]
  lo : ∀ (i : Nat) (x : Int × Int), i < j → R[i]? = some x → x.1 < key
/-- where it has come to the row -/
structure FX (w : World) (key : Int) (R : List (Int × Int)) (W : World) : Prop where
  ex : ∃ (j : Nat) (x : Int × Int), R[j]? = some x ∧ (∀ (i : Nat) (y : Int × Int), i < j → R[i]? = some y → y.1 < key) ∧ key ≤ x.1 ∧ Below w.heap.size w W ∧
    Lies W (w.heap.size + 1) 3 #[.int .i64 (j : Int)] ∧ Lies W (w.heap.size + 1 + 1) 4 #[.bool (x.1 == key)]

/-- what find leaves -/
structure FindPost (w : World) (R : List (Int × Int)) (key : Int) (e : Ending) (w' : World) : Prop where
  ex : ∃ (k : Nat) (u : Bool), e = .returned (.tuple #[.int .i64 (k : Int), .bool u]) ∧ (u = true → k = idx key R ∧ k < R.length) ∧ (u = false → ¬ idx key R < R.length ∧ k = pos key R) ∧ Below w.heap.size w w'

theorem find_here {w w' : World} {R : List (Int × Int)} {key : Int} {j : Nat} {x : Int × Int} (hx : R[j]? = some x) (hl : ∀ (i : Nat) (y : Int × Int), i < j → R[i]? = some y → y.1 < key) (hk : key ≤ x.1) (ha : Asc R) (hb : Below w.heap.size w w') :
    FindPost w R key (.returned (.tuple #[.int .i64 (j : Int), .bool (x.1 == key)])) w' := by
  have hlt := (List.getElem?_eq_some_iff.1 hx).1
  refine ⟨j, _, rfl, fun hu => ?_, fun hu => ?_, hb⟩
  · have e : x.1 = key := by simpa using hu
    exact ⟨(idx_eq hx e (fun i y hi hy => by have := hl i y hi hy; omega)).symm, hlt⟩
  · have e : x.1 ≠ key := by simpa using hu
    refine ⟨?_, (pos_eq (by omega) (fun y hy => by rw [hx] at hy; cases hy; omega) (fun i y hi hy => by have := hl i y hi hy; omega)).symm⟩
    have : idx key R = R.length := idx_none fun i y hy => by
      rcases Nat.lt_trichotomy i j with h | h | h
      · have := hl i y h hy; omega
      · subst h; rw [hx] at hy; cases hy; exact e
      · have := ha j i x y h hx hy; omega
    omega
theorem find_end {w w' : World} {R : List (Int × Int)} {key : Int} (hl : ∀ (i : Nat) (y : Int × Int), i < R.length → R[i]? = some y → y.1 < key) (hb : Below w.heap.size w w') :
    FindPost w R key (.returned (.tuple #[.int .i64 (R.length : Int), .bool false])) w' := by
  refine ⟨R.length, _, rfl, fun hu => (by cases hu), fun _ => ⟨?_, ?_⟩, hb⟩
  · have : idx key R = R.length := idx_none fun i y hy => by have := hl i y (List.getElem?_eq_some_iff.1 hy).1 hy; omega
    omega
  · exact (pos_eq (Nat.le_refl _) (fun y hy => by have := (List.getElem?_eq_some_iff.1 hy).1; omega) (fun i y hi hy => by have := hl i y hi hy; omega)).symm

theorem results_find {W : World} {b : Nat} {x : Int} {u : Bool} (h4 : Lies W (b + 1) 3 #[.int .i64 x]) (h5 : Lies W (b + 1 + 1) 4 #[.bool u]) (tmps : Array Value) (t4 : tmps[4]?.getD undef = .pointer (some ⟨b + 1, 0, none⟩)) (t5 : tmps[5]?.getD undef = .pointer (some ⟨b + 1 + 1, 0, none⟩)) :
    (results Try.f65 tmps).run Try.prog W = .ok (.tuple #[.int .i64 x, .bool u]) W := by
  have c2 := h4.cell 0
  have c3 := h5.cell 0
  simp at c2 c3
  simp [results, Try.results65, go_sem, t4, t5, c2, c3]

set_option maxRecDepth 100000 in
set_option maxHeartbeats 8000000 in
theorem find_in {w : World} {S : Nat → Prop} {r : Nat} {ev : Int} {R : List (Int × Int)} (h : Pn w S r ev R) (key : Int) :
    CallsIn Fence.wide 3 Try.prog 65 #[.pointer (some ⟨r, 0, none⟩), .int .i64 key] w (FindPost w R key) := by
  have hasc := Bx.mk h.asc
  have hlen := h.len
  obtain ⟨A, c, h1, h2, h3⟩ := h.ex
  have hrl := h1.lt
  have HH := Bx.mk h1
  have HR := Bx.mk h2
  have hA : ∃ g, (0 < R.length → A = some ⟨g, 0, none⟩) ∧ (0 < R.length → g < w.heap.size) ∧ ∀ (i : Nat) (x : Int × Int), R[i]? = some x → w.cell? ⟨g, i * 2, none⟩ = some (.int .i64 x.1) ∧ w.cell? ⟨g, i * 2 + 1, none⟩ = some (.int .i64 x.2) := by
    by_cases hp : 0 < R.length
    · obtain ⟨g, a1, a2, a3⟩ := RowsAt.cell h2 hp
      exact ⟨g, fun _ => a1, fun _ => a2, a3⟩
    · exact ⟨0, fun hq => absurd hq hp, fun hq => absurd hq hp, fun i x hx => absurd (List.getElem?_eq_some_iff.1 hx).1 (by omega)⟩
  obtain ⟨g, hA, hgl, hcell⟩ := hA
  have HC := Bx.mk hcell
  have HG := Bx.mk hgl
  have HA := Bx.mk hA
  clear h h1 h2 h3 hcell hgl hA
  obtain ⟨n, hn⟩ : ∃ n, R.length = n := ⟨_, rfl⟩
  have HN := Bx.mk hn
  rw [hn] at hlen HH HG HA
  clear hn
  refine callsIn_of_wp_marks Try.func65 rfl trivial ?_ rfl
  simp only [Try.ntmps65, List.size_toArray, List.length_cons, List.length_nil, Nat.reduceAdd, Nat.reduceSub, Array.replicate_succ, Array.replicate_zero, List.push_toArray, List.append_toArray, List.nil_append, List.cons_append]
  gi_wp2_with fail
  refine ⟨trivial, (callsIn_wide.2 (keys_fn _ _)).mono ?_⟩
  rintro e w3 ⟨rfl, hw3⟩
  have h0 : FI w r key R 0 w3 := by
    rw [hw3]
    refine ⟨((((Below.refl _ w).alloc (Nat.le_refl _) _).alloc (by simp) _).alloc (by simp; omega) _).alloc (by simp; omega) _, (((Lies.new w _ _).alloc _).alloc _).alloc _, ?_, ?_, ?_, fun i x hi => absurd hi (by omega)⟩
    · have := Lies.new (w.alloc (.cells #[.int .i64 key] 3)) 3 #[.int .i64 0]
      rw [World.size_alloc] at this
      exact (this.alloc _).alloc _
    · have := Lies.new ((w.alloc (.cells #[.int .i64 key] 3)).alloc (.cells #[.int .i64 0] 3)) 4 #[.bool false]
      rw [World.size_alloc, World.size_alloc] at this
      exact this.alloc _
    · have := Lies.new (((w.alloc (.cells #[.int .i64 key] 3)).alloc (.cells #[.int .i64 0] 3)).alloc (.cells #[.bool false] 4)) 33 #[.pointer (some ⟨r, 0, none⟩)]
      rw [World.size_alloc, World.size_alloc, World.size_alloc] at this
      exact this
  have hz3 : w.heap.size ≤ w3.heap.size := h0.below.size
  have H0 := Bx.mk h0
  clear h0 hw3
  gi_wp2_with fail
  refine wpIn_range_w rfl (by omega) (gf := 67) (lb := #[.pointer (some ⟨w.heap.size + 1 + 1 + 1, 0, none⟩)]) rfl trivial (enters_of Try.func67 (by kernel_rfl) rfl)
    (keys1_seq Fence.wide 2 trivial rfl (by omega) w3.heap.size (w.heap.size + 1 + 1 + 1) r A n c g hlen HA.out (R.map (·.1)) (fun k W => FI w r key R k W)
      (fun k W => FI w r key R k W ∧ k < n) (FX w key R) (fun W => FI w r key R n W) ?head ?row (fun _ h => h))
    (fun _ => rfl) ?c1 ?c2 ?c3 ?c4 H0.out
    (fun k => { tmps := #[.pointer (some ⟨r, 0, none⟩), .int .i64 key, undef, .pointer (some ⟨w.heap.size, 0, none⟩), .pointer (some ⟨w.heap.size + 1, 0, none⟩), .pointer (some ⟨w.heap.size + 1 + 1, 0, none⟩), .int .i64 (k : Int), .int .i64 (kat (R.map (·.1)) k),
      .pointer (some ⟨r, 0, none⟩), .func (.func 67) #[] #[.pointer (some ⟨w.heap.size + 1 + 1 + 1, 0, none⟩)], .int .i64 (k : Int), .int .i64 (kat (R.map (·.1)) k), undef, undef, undef, undef, undef, undef, undef, undef, undef, undef, undef, undef], defers := [] }) ?assign ?body ?done ?stop
  case head =>
    intro W hi
    exact ⟨hi.bo.cell 0, (hi.below.cell (p := ⟨r, 2, none⟩) hrl).trans (HH.out.cell 2)⟩
  case row =>
    intro k W hi hk
    obtain ⟨x, hx⟩ : ∃ x, R[k]? = some x := ⟨_, List.getElem?_eq_getElem (by rw [HN.out]; exact hk)⟩
    obtain ⟨d1, d2⟩ := HC.out k x hx
    have hgg := HG.out (by omega)
    refine ⟨x.2, ?_, (hi.below.cell (p := ⟨g, k * 2 + 1, none⟩) hgg).trans d2, ⟨⟨hi.below.alloc hi.below.size _, hi.b3.alloc _, hi.b4.alloc _, hi.b5.alloc _, hi.bo.alloc _, hi.lo⟩, hk⟩⟩
    rw [kat_get hx]
    exact (hi.below.cell (p := ⟨g, k * 2, none⟩) hgg).trans d1
  case c1 => exact fun k X Y row hi hg hr => ⟨below_own hi.below hz3 hg hr, lies_own hi.b3 hg hr, lies_own hi.b4 hg hr, lies_own hi.b5 hg hr, lies_own hi.bo hg hr, hi.lo⟩
  case c2 => exact fun k X Y row hi hg hr => ⟨⟨below_own hi.1.below hz3 hg hr, lies_own hi.1.b3 hg hr, lies_own hi.1.b4 hg hr, lies_own hi.1.b5 hg hr, lies_own hi.1.bo hg hr, hi.1.lo⟩, hi.2⟩
  case c3 =>
    intro k X Y row hi hg hr
    obtain ⟨j, x, h1, h2, h3, h4, h5, h6⟩ := hi.ex
    exact ⟨j, x, h1, h2, h3, below_own h4 hz3 hg hr, lies_own h5 hg hr, lies_own h6 hg hr⟩
  case c4 => exact fun k X Y row hi hg hr => ⟨below_own hi.below hz3 hg hr, lies_own hi.b3 hg hr, lies_own hi.b4 hg hr, lies_own hi.b5 hg hr, lies_own hi.bo hg hr, hi.lo⟩
  case assign =>
    intro l k W K hK
    gi_wp2
    exact hK
  case body =>
    clear H0
    rintro l k W ⟨hi, hk⟩
    obtain ⟨x, hx⟩ : ∃ x, R[k]? = some x := ⟨_, List.getElem?_eq_getElem (by rw [HN.out]; exact hk)⟩
    rw [kat_get hx]
    have c3 := hi.b3.cell 0
    have c4 := hi.b4.cell 0
    have c5 := hi.b5.cell 0
    have f4 := hi.b4.frozen 0
    have f5 := hi.b5.frozen 0
    simp at c3 c4 c5
    have HI := Bx.mk hi
    have HX := Bx.mk hx
    clear hi hx
    obtain ⟨y, z⟩ := x
    dsimp only
    by_cases hle : key ≤ y
    · obtain ⟨W2, hW2⟩ : ∃ W2, W2 = ((W.drew.setCell ⟨w.heap.size + 1, 0, none⟩ (.int .i64 (k : Int))).setCell ⟨w.heap.size + 1 + 1, 0, none⟩ (.bool (y == key))) := ⟨_, rfl⟩
      have hfin : KeepsFrom w3.heap.size W W2 ∧ FX w key R W2 := by
        have e4 : Lies W.drew (w.heap.size + 1) 3 #[.int .i64 0] := HI.out.b4
        have e5 : Lies W.drew (w.heap.size + 1 + 1) 4 #[.bool false] := HI.out.b5
        have hk1 : KeepsFrom w3.heap.size W W.drew := (KeepsOthers.drew W).from _
        rw [hW2]
        refine ⟨(hk1.trans ((KeepsOthers.setCell _ _ _).from _)).trans ((KeepsOthers.setCell _ _ _).from _), k, _, HX.out, HI.out.lo, hle, ?_, ?_, ?_⟩
        · exact (HI.out.below.drew.setCell (by simp) _).setCell (by simp; omega) _
        · exact (e4.set 0 _).far (p := ⟨w.heap.size + 1 + 1, 0, none⟩) (by simp) _
        · exact (e5.far (p := ⟨w.heap.size + 1, 0, none⟩) (by simp) _).set 0 _
      have HFIN := Bx.mk hfin
      rw [hW2] at HFIN
      clear hfin hW2
      gi_wp2
      refine wpIn_region_any (by kernel_rfl) ?_
      change wpAnyIn _ _ _ _ _ _ _ _ _ (World.drew _)
      refine @wpAnyIn_ready _ _ _ _ _ _ [0, 1, 2] _ _ _ _ (by kernel_rfl) (by simp) ?_
      refine AllReadyIn.cons rfl (fun K hK => ?_) ?_
      · go_simp
        refine hK _ _ ?_
        clear hK K
        refine @wpAnyIn_ready _ _ _ _ _ _ [1, 2, 4] _ _ _ _ (by kernel_rfl) (by simp) ?_
        refine AllReadyIn.cons rfl (fun K hK => ?_) ?_
        · go_simp
          refine hK _ _ ?_
          clear hK K
          refine @wpAnyIn_ready _ _ _ _ _ _ [2, 4] _ _ _ _ (by kernel_rfl) (by simp) ?_
          refine AllReadyIn.cons rfl (fun K hK => ?_) ?_
          · go_simp
            refine hK _ _ ?_
            clear hK K
            refine @wpAnyIn_ready _ _ _ _ _ _ [3, 4] _ _ _ _ (by kernel_rfl) (by simp) ?_
            refine AllReadyIn.cons rfl (fun K hK => ?_) ?_
            · go_simp
              refine hK _ _ ?_
              clear hK K
              refine @wpAnyIn_ready _ _ _ _ _ _ [4] _ _ _ _ (by kernel_rfl) (by simp) ?_
              refine AllReadyIn.cons rfl (fun K hK => ?_) ?_
              · go_simp
                refine hK _ _ ?_
                clear hK K
                refine @wpAnyIn_ready _ _ _ _ _ _ [5] _ _ _ _ (by kernel_rfl) (by simp) ?_
                refine AllReadyIn.cons rfl (fun K hK => ?_) ?_
                · go_simp
                  refine hK _ _ ?_
                  clear hK K
                  refine wpAnyIn_done (by kernel_rfl) ?_ _
                  gi_wp2
                  exact HFIN.out
                exact AllReadyIn.nil
              exact AllReadyIn.nil
            refine AllReadyIn.cons rfl (fun K hK => ?_) ?_
            · go_simp
              refine hK _ _ ?_
              clear hK K
              refine @wpAnyIn_ready _ _ _ _ _ _ [3] _ _ _ _ (by kernel_rfl) (by simp) ?_
              refine AllReadyIn.cons rfl (fun K hK => ?_) ?_
              · go_simp
                refine hK _ _ ?_
                clear hK K
                refine @wpAnyIn_ready _ _ _ _ _ _ [5] _ _ _ _ (by kernel_rfl) (by simp) ?_
                refine AllReadyIn.cons rfl (fun K hK => ?_) ?_
                · go_simp
                  refine hK _ _ ?_
                  clear hK K
                  refine wpAnyIn_done (by kernel_rfl) ?_ _
                  gi_wp2
                  exact HFIN.out
                exact AllReadyIn.nil
              exact AllReadyIn.nil
            exact AllReadyIn.nil
          refine AllReadyIn.cons rfl (fun K hK => ?_) ?_
          · go_simp
            refine hK _ _ ?_
            clear hK K
            refine @wpAnyIn_ready _ _ _ _ _ _ [2] _ _ _ _ (by kernel_rfl) (by simp) ?_
            refine AllReadyIn.cons rfl (fun K hK => ?_) ?_
            · go_simp
              refine hK _ _ ?_
              clear hK K
              refine @wpAnyIn_ready _ _ _ _ _ _ [3] _ _ _ _ (by kernel_rfl) (by simp) ?_
              refine AllReadyIn.cons rfl (fun K hK => ?_) ?_
              · go_simp
                refine hK _ _ ?_
                clear hK K
                refine @wpAnyIn_ready _ _ _ _ _ _ [5] _ _ _ _ (by kernel_rfl) (by simp) ?_
                refine AllReadyIn.cons rfl (fun K hK => ?_) ?_
                · go_simp
                  refine hK _ _ ?_
                  clear hK K
                  refine wpAnyIn_done (by kernel_rfl) ?_ _
                  gi_wp2
                  exact HFIN.out
                exact AllReadyIn.nil
              exact AllReadyIn.nil
            exact AllReadyIn.nil
          exact AllReadyIn.nil
        refine AllReadyIn.cons rfl (fun K hK => ?_) ?_
        · go_simp
          refine hK _ _ ?_
          clear hK K
          refine @wpAnyIn_ready _ _ _ _ _ _ [1, 4] _ _ _ _ (by kernel_rfl) (by simp) ?_
          refine AllReadyIn.cons rfl (fun K hK => ?_) ?_
          · go_simp
            refine hK _ _ ?_
            clear hK K
            refine @wpAnyIn_ready _ _ _ _ _ _ [3, 4] _ _ _ _ (by kernel_rfl) (by simp) ?_
            refine AllReadyIn.cons rfl (fun K hK => ?_) ?_
            · go_simp
              refine hK _ _ ?_
              clear hK K
              refine @wpAnyIn_ready _ _ _ _ _ _ [4] _ _ _ _ (by kernel_rfl) (by simp) ?_
              refine AllReadyIn.cons rfl (fun K hK => ?_) ?_
              · go_simp
                refine hK _ _ ?_
                clear hK K
                refine @wpAnyIn_ready _ _ _ _ _ _ [5] _ _ _ _ (by kernel_rfl) (by simp) ?_
                refine AllReadyIn.cons rfl (fun K hK => ?_) ?_
                · go_simp
                  refine hK _ _ ?_
                  clear hK K
                  refine wpAnyIn_done (by kernel_rfl) ?_ _
                  gi_wp2
                  exact HFIN.out
                exact AllReadyIn.nil
              exact AllReadyIn.nil
            refine AllReadyIn.cons rfl (fun K hK => ?_) ?_
            · go_simp
              refine hK _ _ ?_
              clear hK K
              refine @wpAnyIn_ready _ _ _ _ _ _ [3] _ _ _ _ (by kernel_rfl) (by simp) ?_
              refine AllReadyIn.cons rfl (fun K hK => ?_) ?_
              · go_simp
                refine hK _ _ ?_
                clear hK K
                refine @wpAnyIn_ready _ _ _ _ _ _ [5] _ _ _ _ (by kernel_rfl) (by simp) ?_
                refine AllReadyIn.cons rfl (fun K hK => ?_) ?_
                · go_simp
                  refine hK _ _ ?_
                  clear hK K
                  refine wpAnyIn_done (by kernel_rfl) ?_ _
                  gi_wp2
                  exact HFIN.out
                exact AllReadyIn.nil
              exact AllReadyIn.nil
            exact AllReadyIn.nil
          refine AllReadyIn.cons rfl (fun K hK => ?_) ?_
          · go_simp
            refine hK _ _ ?_
            clear hK K
            refine @wpAnyIn_ready _ _ _ _ _ _ [1] _ _ _ _ (by kernel_rfl) (by simp) ?_
            refine AllReadyIn.cons rfl (fun K hK => ?_) ?_
            · go_simp
              refine hK _ _ ?_
              clear hK K
              refine @wpAnyIn_ready _ _ _ _ _ _ [3] _ _ _ _ (by kernel_rfl) (by simp) ?_
              refine AllReadyIn.cons rfl (fun K hK => ?_) ?_
              · go_simp
                refine hK _ _ ?_
                clear hK K
                refine @wpAnyIn_ready _ _ _ _ _ _ [5] _ _ _ _ (by kernel_rfl) (by simp) ?_
                refine AllReadyIn.cons rfl (fun K hK => ?_) ?_
                · go_simp
                  refine hK _ _ ?_
                  clear hK K
                  refine wpAnyIn_done (by kernel_rfl) ?_ _
                  gi_wp2
                  exact HFIN.out
                exact AllReadyIn.nil
              exact AllReadyIn.nil
            exact AllReadyIn.nil
          exact AllReadyIn.nil
        refine AllReadyIn.cons rfl (fun K hK => ?_) ?_
        · go_simp
          refine hK _ _ ?_
          clear hK K
          refine @wpAnyIn_ready _ _ _ _ _ _ [1, 2] _ _ _ _ (by kernel_rfl) (by simp) ?_
          refine AllReadyIn.cons rfl (fun K hK => ?_) ?_
          · go_simp
            refine hK _ _ ?_
            clear hK K
            refine @wpAnyIn_ready _ _ _ _ _ _ [2] _ _ _ _ (by kernel_rfl) (by simp) ?_
            refine AllReadyIn.cons rfl (fun K hK => ?_) ?_
            · go_simp
              refine hK _ _ ?_
              clear hK K
              refine @wpAnyIn_ready _ _ _ _ _ _ [3] _ _ _ _ (by kernel_rfl) (by simp) ?_
              refine AllReadyIn.cons rfl (fun K hK => ?_) ?_
              · go_simp
                refine hK _ _ ?_
                clear hK K
                refine @wpAnyIn_ready _ _ _ _ _ _ [5] _ _ _ _ (by kernel_rfl) (by simp) ?_
                refine AllReadyIn.cons rfl (fun K hK => ?_) ?_
                · go_simp
                  refine hK _ _ ?_
                  clear hK K
                  refine wpAnyIn_done (by kernel_rfl) ?_ _
                  gi_wp2
                  exact HFIN.out
                exact AllReadyIn.nil
              exact AllReadyIn.nil
            exact AllReadyIn.nil
          refine AllReadyIn.cons rfl (fun K hK => ?_) ?_
          · go_simp
            refine hK _ _ ?_
            clear hK K
            refine @wpAnyIn_ready _ _ _ _ _ _ [1] _ _ _ _ (by kernel_rfl) (by simp) ?_
            refine AllReadyIn.cons rfl (fun K hK => ?_) ?_
            · go_simp
              refine hK _ _ ?_
              clear hK K
              refine @wpAnyIn_ready _ _ _ _ _ _ [3] _ _ _ _ (by kernel_rfl) (by simp) ?_
              refine AllReadyIn.cons rfl (fun K hK => ?_) ?_
              · go_simp
                refine hK _ _ ?_
                clear hK K
                refine @wpAnyIn_ready _ _ _ _ _ _ [5] _ _ _ _ (by kernel_rfl) (by simp) ?_
                refine AllReadyIn.cons rfl (fun K hK => ?_) ?_
                · go_simp
                  refine hK _ _ ?_
                  clear hK K
                  refine wpAnyIn_done (by kernel_rfl) ?_ _
                  gi_wp2
                  exact HFIN.out
                exact AllReadyIn.nil
              exact AllReadyIn.nil
            exact AllReadyIn.nil
          exact AllReadyIn.nil
        exact AllReadyIn.nil
      refine AllReadyIn.cons rfl (fun K hK => ?_) ?_
      · go_simp
        refine hK _ _ ?_
        clear hK K
        refine @wpAnyIn_ready _ _ _ _ _ _ [0, 2] _ _ _ _ (by kernel_rfl) (by simp) ?_
        refine AllReadyIn.cons rfl (fun K hK => ?_) ?_
        · go_simp
          refine hK _ _ ?_
          clear hK K
          refine @wpAnyIn_ready _ _ _ _ _ _ [2, 4] _ _ _ _ (by kernel_rfl) (by simp) ?_
          refine AllReadyIn.cons rfl (fun K hK => ?_) ?_
          · go_simp
            refine hK _ _ ?_
            clear hK K
            refine @wpAnyIn_ready _ _ _ _ _ _ [3, 4] _ _ _ _ (by kernel_rfl) (by simp) ?_
            refine AllReadyIn.cons rfl (fun K hK => ?_) ?_
            · go_simp
              refine hK _ _ ?_
              clear hK K
              refine @wpAnyIn_ready _ _ _ _ _ _ [4] _ _ _ _ (by kernel_rfl) (by simp) ?_
              refine AllReadyIn.cons rfl (fun K hK => ?_) ?_
              · go_simp
                refine hK _ _ ?_
                clear hK K
                refine @wpAnyIn_ready _ _ _ _ _ _ [5] _ _ _ _ (by kernel_rfl) (by simp) ?_
                refine AllReadyIn.cons rfl (fun K hK => ?_) ?_
                · go_simp
                  refine hK _ _ ?_
                  clear hK K
                  refine wpAnyIn_done (by kernel_rfl) ?_ _
                  gi_wp2
                  exact HFIN.out
                exact AllReadyIn.nil
              exact AllReadyIn.nil
            refine AllReadyIn.cons rfl (fun K hK => ?_) ?_
            · go_simp
              refine hK _ _ ?_
              clear hK K
              refine @wpAnyIn_ready _ _ _ _ _ _ [3] _ _ _ _ (by kernel_rfl) (by simp) ?_
              refine AllReadyIn.cons rfl (fun K hK => ?_) ?_
              · go_simp
                refine hK _ _ ?_
                clear hK K
                refine @wpAnyIn_ready _ _ _ _ _ _ [5] _ _ _ _ (by kernel_rfl) (by simp) ?_
                refine AllReadyIn.cons rfl (fun K hK => ?_) ?_
                · go_simp
                  refine hK _ _ ?_
                  clear hK K
                  refine wpAnyIn_done (by kernel_rfl) ?_ _
                  gi_wp2
                  exact HFIN.out
                exact AllReadyIn.nil
              exact AllReadyIn.nil
            exact AllReadyIn.nil
          refine AllReadyIn.cons rfl (fun K hK => ?_) ?_
          · go_simp
            refine hK _ _ ?_
            clear hK K
            refine @wpAnyIn_ready _ _ _ _ _ _ [2] _ _ _ _ (by kernel_rfl) (by simp) ?_
            refine AllReadyIn.cons rfl (fun K hK => ?_) ?_
            · go_simp
              refine hK _ _ ?_
              clear hK K
              refine @wpAnyIn_ready _ _ _ _ _ _ [3] _ _ _ _ (by kernel_rfl) (by simp) ?_
              refine AllReadyIn.cons rfl (fun K hK => ?_) ?_
              · go_simp
                refine hK _ _ ?_
                clear hK K
                refine @wpAnyIn_ready _ _ _ _ _ _ [5] _ _ _ _ (by kernel_rfl) (by simp) ?_
                refine AllReadyIn.cons rfl (fun K hK => ?_) ?_
                · go_simp
                  refine hK _ _ ?_
                  clear hK K
                  refine wpAnyIn_done (by kernel_rfl) ?_ _
                  gi_wp2
                  exact HFIN.out
                exact AllReadyIn.nil
              exact AllReadyIn.nil
            exact AllReadyIn.nil
          exact AllReadyIn.nil
        refine AllReadyIn.cons rfl (fun K hK => ?_) ?_
        · go_simp
          refine hK _ _ ?_
          clear hK K
          refine @wpAnyIn_ready _ _ _ _ _ _ [0, 3] _ _ _ _ (by kernel_rfl) (by simp) ?_
          refine AllReadyIn.cons rfl (fun K hK => ?_) ?_
          · go_simp
            refine hK _ _ ?_
            clear hK K
            refine @wpAnyIn_ready _ _ _ _ _ _ [3, 4] _ _ _ _ (by kernel_rfl) (by simp) ?_
            refine AllReadyIn.cons rfl (fun K hK => ?_) ?_
            · go_simp
              refine hK _ _ ?_
              clear hK K
              refine @wpAnyIn_ready _ _ _ _ _ _ [4] _ _ _ _ (by kernel_rfl) (by simp) ?_
              refine AllReadyIn.cons rfl (fun K hK => ?_) ?_
              · go_simp
                refine hK _ _ ?_
                clear hK K
                refine @wpAnyIn_ready _ _ _ _ _ _ [5] _ _ _ _ (by kernel_rfl) (by simp) ?_
                refine AllReadyIn.cons rfl (fun K hK => ?_) ?_
                · go_simp
                  refine hK _ _ ?_
                  clear hK K
                  refine wpAnyIn_done (by kernel_rfl) ?_ _
                  gi_wp2
                  exact HFIN.out
                exact AllReadyIn.nil
              exact AllReadyIn.nil
            refine AllReadyIn.cons rfl (fun K hK => ?_) ?_
            · go_simp
              refine hK _ _ ?_
              clear hK K
              refine @wpAnyIn_ready _ _ _ _ _ _ [3] _ _ _ _ (by kernel_rfl) (by simp) ?_
              refine AllReadyIn.cons rfl (fun K hK => ?_) ?_
              · go_simp
                refine hK _ _ ?_
                clear hK K
                refine @wpAnyIn_ready _ _ _ _ _ _ [5] _ _ _ _ (by kernel_rfl) (by simp) ?_
                refine AllReadyIn.cons rfl (fun K hK => ?_) ?_
                · go_simp
                  refine hK _ _ ?_
                  clear hK K
                  refine wpAnyIn_done (by kernel_rfl) ?_ _
                  gi_wp2
                  exact HFIN.out
                exact AllReadyIn.nil
              exact AllReadyIn.nil
            exact AllReadyIn.nil
          refine AllReadyIn.cons rfl (fun K hK => ?_) ?_
          · go_simp
            refine hK _ _ ?_
            clear hK K
            refine @wpAnyIn_ready _ _ _ _ _ _ [0] _ _ _ _ (by kernel_rfl) (by simp) ?_
            refine AllReadyIn.cons rfl (fun K hK => ?_) ?_
            · go_simp
              refine hK _ _ ?_
              clear hK K
              refine @wpAnyIn_ready _ _ _ _ _ _ [4] _ _ _ _ (by kernel_rfl) (by simp) ?_
              refine AllReadyIn.cons rfl (fun K hK => ?_) ?_
              · go_simp
                refine hK _ _ ?_
                clear hK K
                refine @wpAnyIn_ready _ _ _ _ _ _ [5] _ _ _ _ (by kernel_rfl) (by simp) ?_
                refine AllReadyIn.cons rfl (fun K hK => ?_) ?_
                · go_simp
                  refine hK _ _ ?_
                  clear hK K
                  refine wpAnyIn_done (by kernel_rfl) ?_ _
                  gi_wp2
                  exact HFIN.out
                exact AllReadyIn.nil
              exact AllReadyIn.nil
            exact AllReadyIn.nil
          exact AllReadyIn.nil
        exact AllReadyIn.nil
      refine AllReadyIn.cons rfl (fun K hK => ?_) ?_
      · go_simp
        refine hK _ _ ?_
        clear hK K
        refine @wpAnyIn_ready _ _ _ _ _ _ [0, 1] _ _ _ _ (by kernel_rfl) (by simp) ?_
        refine AllReadyIn.cons rfl (fun K hK => ?_) ?_
        · go_simp
          refine hK _ _ ?_
          clear hK K
          refine @wpAnyIn_ready _ _ _ _ _ _ [1, 4] _ _ _ _ (by kernel_rfl) (by simp) ?_
          refine AllReadyIn.cons rfl (fun K hK => ?_) ?_
          · go_simp
            refine hK _ _ ?_
            clear hK K
            refine @wpAnyIn_ready _ _ _ _ _ _ [3, 4] _ _ _ _ (by kernel_rfl) (by simp) ?_
            refine AllReadyIn.cons rfl (fun K hK => ?_) ?_
            · go_simp
              refine hK _ _ ?_
              clear hK K
              refine @wpAnyIn_ready _ _ _ _ _ _ [4] _ _ _ _ (by kernel_rfl) (by simp) ?_
              refine AllReadyIn.cons rfl (fun K hK => ?_) ?_
              · go_simp
                refine hK _ _ ?_
                clear hK K
                refine @wpAnyIn_ready _ _ _ _ _ _ [5] _ _ _ _ (by kernel_rfl) (by simp) ?_
                refine AllReadyIn.cons rfl (fun K hK => ?_) ?_
                · go_simp
                  refine hK _ _ ?_
                  clear hK K
                  refine wpAnyIn_done (by kernel_rfl) ?_ _
                  gi_wp2
                  exact HFIN.out
                exact AllReadyIn.nil
              exact AllReadyIn.nil
            refine AllReadyIn.cons rfl (fun K hK => ?_) ?_
            · go_simp
              refine hK _ _ ?_
              clear hK K
              refine @wpAnyIn_ready _ _ _ _ _ _ [3] _ _ _ _ (by kernel_rfl) (by simp) ?_
              refine AllReadyIn.cons rfl (fun K hK => ?_) ?_
              · go_simp
                refine hK _ _ ?_
                clear hK K
                refine @wpAnyIn_ready _ _ _ _ _ _ [5] _ _ _ _ (by kernel_rfl) (by simp) ?_
                refine AllReadyIn.cons rfl (fun K hK => ?_) ?_
                · go_simp
                  refine hK _ _ ?_
                  clear hK K
                  refine wpAnyIn_done (by kernel_rfl) ?_ _
                  gi_wp2
                  exact HFIN.out
                exact AllReadyIn.nil
              exact AllReadyIn.nil
            exact AllReadyIn.nil
          refine AllReadyIn.cons rfl (fun K hK => ?_) ?_
          · go_simp
            refine hK _ _ ?_
            clear hK K
            refine @wpAnyIn_ready _ _ _ _ _ _ [1] _ _ _ _ (by kernel_rfl) (by simp) ?_
            refine AllReadyIn.cons rfl (fun K hK => ?_) ?_
            · go_simp
              refine hK _ _ ?_
              clear hK K
              refine @wpAnyIn_ready _ _ _ _ _ _ [3] _ _ _ _ (by kernel_rfl) (by simp) ?_
              refine AllReadyIn.cons rfl (fun K hK => ?_) ?_
              · go_simp
                refine hK _ _ ?_
                clear hK K
                refine @wpAnyIn_ready _ _ _ _ _ _ [5] _ _ _ _ (by kernel_rfl) (by simp) ?_
                refine AllReadyIn.cons rfl (fun K hK => ?_) ?_
                · go_simp
                  refine hK _ _ ?_
                  clear hK K
                  refine wpAnyIn_done (by kernel_rfl) ?_ _
                  gi_wp2
                  exact HFIN.out
                exact AllReadyIn.nil
              exact AllReadyIn.nil
            exact AllReadyIn.nil
          exact AllReadyIn.nil
        refine AllReadyIn.cons rfl (fun K hK => ?_) ?_
        · go_simp
          refine hK _ _ ?_
          clear hK K
          refine @wpAnyIn_ready _ _ _ _ _ _ [0, 3] _ _ _ _ (by kernel_rfl) (by simp) ?_
          refine AllReadyIn.cons rfl (fun K hK => ?_) ?_
          · go_simp
            refine hK _ _ ?_
            clear hK K
            refine @wpAnyIn_ready _ _ _ _ _ _ [3, 4] _ _ _ _ (by kernel_rfl) (by simp) ?_
            refine AllReadyIn.cons rfl (fun K hK => ?_) ?_
            · go_simp
              refine hK _ _ ?_
              clear hK K
              refine @wpAnyIn_ready _ _ _ _ _ _ [4] _ _ _ _ (by kernel_rfl) (by simp) ?_
              refine AllReadyIn.cons rfl (fun K hK => ?_) ?_
              · go_simp
                refine hK _ _ ?_
                clear hK K
                refine @wpAnyIn_ready _ _ _ _ _ _ [5] _ _ _ _ (by kernel_rfl) (by simp) ?_
                refine AllReadyIn.cons rfl (fun K hK => ?_) ?_
                · go_simp
                  refine hK _ _ ?_
                  clear hK K
                  refine wpAnyIn_done (by kernel_rfl) ?_ _
                  gi_wp2
                  exact HFIN.out
                exact AllReadyIn.nil
              exact AllReadyIn.nil
            refine AllReadyIn.cons rfl (fun K hK => ?_) ?_
            · go_simp
              refine hK _ _ ?_
              clear hK K
              refine @wpAnyIn_ready _ _ _ _ _ _ [3] _ _ _ _ (by kernel_rfl) (by simp) ?_
              refine AllReadyIn.cons rfl (fun K hK => ?_) ?_
              · go_simp
                refine hK _ _ ?_
                clear hK K
                refine @wpAnyIn_ready _ _ _ _ _ _ [5] _ _ _ _ (by kernel_rfl) (by simp) ?_
                refine AllReadyIn.cons rfl (fun K hK => ?_) ?_
                · go_simp
                  refine hK _ _ ?_
                  clear hK K
                  refine wpAnyIn_done (by kernel_rfl) ?_ _
                  gi_wp2
                  exact HFIN.out
                exact AllReadyIn.nil
              exact AllReadyIn.nil
            exact AllReadyIn.nil
          refine AllReadyIn.cons rfl (fun K hK => ?_) ?_
          · go_simp
            refine hK _ _ ?_
            clear hK K
            refine @wpAnyIn_ready _ _ _ _ _ _ [0] _ _ _ _ (by kernel_rfl) (by simp) ?_
            refine AllReadyIn.cons rfl (fun K hK => ?_) ?_
            · go_simp
              refine hK _ _ ?_
              clear hK K
              refine @wpAnyIn_ready _ _ _ _ _ _ [4] _ _ _ _ (by kernel_rfl) (by simp) ?_
              refine AllReadyIn.cons rfl (fun K hK => ?_) ?_
              · go_simp
                refine hK _ _ ?_
                clear hK K
                refine @wpAnyIn_ready _ _ _ _ _ _ [5] _ _ _ _ (by kernel_rfl) (by simp) ?_
                refine AllReadyIn.cons rfl (fun K hK => ?_) ?_
                · go_simp
                  refine hK _ _ ?_
                  clear hK K
                  refine wpAnyIn_done (by kernel_rfl) ?_ _
                  gi_wp2
                  exact HFIN.out
                exact AllReadyIn.nil
              exact AllReadyIn.nil
            exact AllReadyIn.nil
          exact AllReadyIn.nil
        exact AllReadyIn.nil
      exact AllReadyIn.nil

    · have hfin : KeepsFrom w3.heap.size W W ∧ FI w r key R (k + 1) W := by
        refine ⟨keepsFrom_below (Below.refl _ _) _, HI.out.below, HI.out.b3, HI.out.b4, HI.out.b5, HI.out.bo, fun i x' hi hx' => ?_⟩
        by_cases e : i = k
        · subst e
          rw [HX.out] at hx'
          cases hx'
          show y < key
          omega
        · exact HI.out.lo i x' (by omega) hx'
      have HFIN := Bx.mk hfin
      clear hfin
      gi_wp2
      exact HFIN.out
  case done =>
    rintro D W hD hi hK
    have c4 := hi.b4.cell 0
    have c5 := hi.b5.cell 0
    have f4 := hi.b4.frozen 0
    have f5 := hi.b5.frozen 0
    have cr := (hi.below.cell (p := ⟨r, 2, none⟩) hrl).trans (HH.out.cell 2)
    simp at c4 c5 cr
    obtain ⟨W2, hW2⟩ : ∃ W2, W2 = (W.setCell ⟨w.heap.size + 1, 0, none⟩ (.int .i64 (n : Int))).setCell ⟨w.heap.size + 1 + 1, 0, none⟩ (.bool false) := ⟨_, rfl⟩
    have hK2 : W2.heap[D]? = some (.deferred (some [])) := by rw [hW2]; exact ((KeepsOthers.setCell _ _ _).trans (KeepsOthers.setCell _ _ _)).same D _ hK rfl
    have hb2 : Below w.heap.size w W2 := by rw [hW2]; exact (hi.below.setCell (by simp) _).setCell (by simp; omega) _
    have h4 : Lies W2 (w.heap.size + 1) 3 #[.int .i64 (n : Int)] := by rw [hW2]; exact (hi.b4.set 0 _).far (p := ⟨w.heap.size + 1 + 1, 0, none⟩) (by simp) _
    have h5 : Lies W2 (w.heap.size + 1 + 1) 4 #[.bool false] := by rw [hW2]; exact (hi.b5.far (p := ⟨w.heap.size + 1, 0, none⟩) (by simp) _).set 0 _
    have hrow : ∀ q, some D = some q → w3.heap.size ≤ q ∧ ∃ o : Obj, W2.heap[q]? = some o ∧ o.isCells = false := fun q e => by cases e; exact ⟨hD, _, hK2, rfl⟩
    have hfin : FindPost w R key (.returned (.tuple #[.int .i64 (n : Int), .bool false])) (W2.putObj D (.deferred none)) := by
      rw [← HN.out]
      exact find_end (by rw [HN.out]; exact hi.lo) (below_own hb2 hz3 (grownBy_putObj' W2 D _) hrow)
    have g4 := lies_own h4 (grownBy_putObj' W2 D (.deferred none)) hrow
    have g5 := lies_own h5 (grownBy_putObj' W2 D (.deferred none)) hrow
    have HFIN := Bx.mk hfin
    have HB4 := Bx.mk g4
    have HB5 := Bx.mk g5
    have HK := Bx.mk hK2
    rw [hW2] at HFIN HB4 HB5 HK
    clear hi hK hK2 hb2 h4 h5 g4 g5 hrow hfin hW2
    gi_wp2
    refine ⟨by simp, .inl ⟨_, _, rfl, run_takeDeferred HK.out, ?_⟩⟩
    exact ⟨.tuple #[.int .i64 (n : Int), .bool false], results_find HB4.out HB5.out _ rfl rfl, HFIN.out⟩
  case stop =>
    rintro D W hD hx hK
    obtain ⟨j, x, h1, h2, h3, h4, h5, h6⟩ := hx.ex
    have hrow : ∀ q, some D = some q → w3.heap.size ≤ q ∧ ∃ o : Obj, W.heap[q]? = some o ∧ o.isCells = false := fun q e => by cases e; exact ⟨hD, _, hK, rfl⟩
    have hfin : FindPost w R key (.returned (.tuple #[.int .i64 (j : Int), .bool (x.1 == key)])) (W.putObj D (.deferred none)) :=
      find_here h1 h2 h3 hasc.out (below_own h4 hz3 (grownBy_putObj' W D _) hrow)
    have g5 := lies_own h5 (grownBy_putObj' W D (.deferred none)) hrow
    have g6 := lies_own h6 (grownBy_putObj' W D (.deferred none)) hrow
    have HFIN := Bx.mk hfin
    have HB5 := Bx.mk g5
    have HB6 := Bx.mk g6
    have HK := Bx.mk hK
    clear hx h1 h2 h3 h4 h5 h6 g5 g6 hrow hfin hK
    gi_wp2
    refine ⟨by simp, .inl ⟨_, _, rfl, run_takeDeferred HK.out, ?_⟩⟩
    exact ⟨.tuple #[.int .i64 (j : Int), .bool (x.1 == key)], results_find HB5.out HB6.out _ rfl rfl, HFIN.out⟩

/-- **find** -/
theorem find_any {w : World} {S : Nat → Prop} {r : Nat} {ev : Int} {R : List (Int × Int)} (h : Pn w S r ev R) (key : Int) :
    Calls Try.prog 65 #[.pointer (some ⟨r, 0, none⟩), .int .i64 key] w (FindPost w R key) := callsIn_wide.1 (find_in h key)
end Go.Proofs.Ytpidjekabnnmcaa.pl
