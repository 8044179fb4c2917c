/-
  Given for the seat's laws: the contract of slices.Insert of one row. No condition but those of the theorems.
-/
import Derived.Test.YtpidjekabnnmcaaRow
namespace Go.Proofs.Ytpidjekabnnmcaa.find
open Go.RowKit mem
set_option linter.unusedVariables false

def rowOf (A : Option Addr) : Option Nat := (Value.slice A 0 0).ownBlock
theorem rowOf_eq (A : Option Addr) (m c : Nat) : (Value.slice A m c).ownBlock = rowOf A := by cases A <;> rfl

def ins (l : List (Int × Int)) (k : Nat) (x : Int × Int) : List (Int × Int) := l.take k ++ x :: l.drop k
theorem length_ins (l : List (Int × Int)) (k : Nat) (x : Int × Int) (h : k ≤ l.length) : (ins l k x).length = l.length + 1 := by simp [ins]; omega
theorem flat_ins (l : List (Int × Int)) (k : Nat) (x : Int × Int) : flat (ins l k x) = (flat l).take (k * 2) ++ (.int .i64 x.1 :: .int .i64 x.2 :: (flat l).drop (k * 2)) := by
  unfold ins
  rw [flat_append, flat_take, flat_cons, flat_drop]

/-- what Insert leaves -/
structure InsPost (w : World) (A : Option Addr) (l : List (Int × Int)) (k : Nat) (x : Int × Int) (e : Ending) (w' : World) : Prop where
  ex : ∃ A' c', e = .returned (.slice A' (ins l k x).length c') ∧ RowsAt w' A' c' (ins l k x) ∧ w.grownBy w' (rowOf A) ∧ ∀ g, rowOf A' = some g → rowOf A = some g ∨ w.heap.size ≤ g

set_option maxRecDepth 100000 in
set_option maxHeartbeats 1000000 in
theorem insert_end {w : World} {A : Option Addr} {c : Nat} {l : List (Int × Int)} (h : RowsAt w A c l) (hl : l.length ≤ 1000) (b : Nat) (x : Int × Int) (hb : Lies w b 103 #[.int .i64 x.1, .int .i64 x.2]) :
    Calls Try.prog 74 #[.slice A l.length c, .int .i64 (l.length : Int), .slice (some ⟨b, 0, none⟩) 1 1] w (InsPost w A l l.length x) := by
  obtain ⟨A', c', w', hr, ho, hg, ha⟩ := append_run h b x hb hl
  have hn : l.length ≤ c := by
    rcases h.2 with ⟨he, h0⟩ | ⟨g, cap, cur, he, _, _, hn, _⟩
    · omega
    · simp only [Value.slice.injEq] at he; omega
  obtain ⟨A1, q1⟩ := cut_lo_any A l.length c l.length (Nat.le_refl _) hn
  have e1 : ins l l.length x = l ++ [x] := by simp [ins]
  have E1 := Lib.hid e1
  have HR := Lib.hid hr
  have HO := Lib.hid ho
  have HG := Lib.hid hg
  have HA := Lib.hid ha
  generalize hnn : l.length = n at *
  have HN := Lib.hid hnn
  clear hr ho hg ha hb h e1 hnn
  go_enter Try.func74, Try.ntmps74
  go_wp2_with (at_builtin; refine wpList_append_eq rfl _ _ 92 92 rfl rfl rfl rfl HR.out ?_)
  go_ret
  refine ⟨A', c', ?_, ?_, HG.out, HA.out⟩
  · have e : (ins l n x).length = l.length + 1 := by rw [E1.out, List.length_append]; rfl
    rw [e]; rfl
  · rw [E1.out]; exact HO.out

theorem lies_shape {w : World} {g : Nat} {t : TypeId} {cs : Array Value} (h : Lies w g t cs) : w.shape? g = some (t, cs.size) := by
  unfold Lies at h
  simp [World.shape?, h]

theorem overlaps_no (W : World) (b g o m c lb cb : Nat) (x : Int × Int) (cur : Array Value) (hb : Lies W b 103 #[.int .i64 x.1, .int .i64 x.2]) (hg : Lies W g 103 cur) (hne : b ≠ g) (hc : cur.size ≠ 0) :
    (callFunc 78 #[.slice (some ⟨b, 0, none⟩) m c, .slice (some ⟨g, o, none⟩) lb cb]).run Try.prog W = .ok (.value (.bool false)) W := by
  rw [run_callFunc_extern (P := Try.prog) Try.func78 (by kernel_rfl) (by kernel_rfl) (by kernel_rfl) (e := Extern.SlicesOverlaps.overlaps #[92, 92] #[4]) (by kernel_rfl),
    Lib.run_overlaps_apart W 92 4 103 Try.underlying92 2 run_size ⟨b, 0, none⟩ ⟨g, o, none⟩ m c lb cb hne 103 103 2 cur.size (lies_shape hb) (lies_shape hg) hc (hb.frozen 0) (hb.frozen 2)]
  rfl

/-- rows in a block that is known whole -/
theorem RowsAt.block {w : World} {A : Option Addr} {c : Nat} {l : List (Int × Int)} (h : RowsAt w A c l) (hp : 0 < l.length) :
    ∃ (g : Nat) (cur : List Value), A = some ⟨g, 0, none⟩ ∧ Lies w g 103 cur.toArray ∧ l.length ≤ c ∧ c ≤ maxLen ∧ cur.length = c * 2 ∧ cur.take (l.length * 2) = flat l := by
  rcases h.2 with ⟨he, h0⟩ | ⟨g, cap, cur, he, hb, hg, hn, hm, hs, ht⟩
  · omega
  · simp only [Value.slice.injEq] at he
    obtain ⟨rfl, _, rfl⟩ := he
    exact ⟨g, cur.toList, rfl, (by show w.heap[g]? = _; simpa using hg), hn, hm, by simpa using hs, ht⟩

theorem RowsAt.mk {w : World} {g c : Nat} {cur : List Value} {l : List (Int × Int)} (hg : Lies w g 103 cur.toArray) (hn : l.length ≤ c) (hm : c ≤ maxLen) (hs : cur.length = c * 2) (ht : cur.take (l.length * 2) = flat l) : RowsAt w (some ⟨g, 0, none⟩) c l :=
  ⟨flat_length l, .inr ⟨g, c, cur.toArray, rfl, Nat.zero_le _, hg, hn, hm, by simpa using hs, by simpa using ht⟩⟩

theorem two_lay (cur : List Value) (l : List (Int × Int)) (k : Nat) (x : Int × Int) (hk : k < l.length) (hfit : (l.length + 1) * 2 ≤ cur.length) (ht : cur.take (l.length * 2) = flat l) :
    (lay (lay cur ((k + 1) * 2) (flat (l.drop k))) (k * 2) [.int .i64 x.1, .int .i64 x.2]).take ((l.length + 1) * 2) = flat (ins l k x) := by
  have hd : (flat (l.drop k)).length = (l.length - k) * 2 := by rw [flat_length, List.length_drop]
  have h1 : (lay cur ((k + 1) * 2) (flat (l.drop k))).length = cur.length := length_lay _ _ _ (by rw [hd]; omega)
  apply List.ext_getElem?
  intro j
  rw [flat_ins]
  have hlt : (flat l).length = l.length * 2 := flat_length l
  by_cases hj : j < (l.length + 1) * 2
  · rw [List.getElem?_take, if_pos hj, getElem?_lay _ _ _ (by omega)]
    by_cases h2 : j < k * 2
    · rw [if_pos h2, getElem?_lay _ _ _ (by omega), if_pos (by omega), List.getElem?_append_left (by rw [List.length_take]; omega), List.getElem?_take, if_pos h2, ← ht, List.getElem?_take, if_pos (by omega)]
    · rw [if_neg h2, List.getElem?_append_right (by rw [List.length_take]; omega), List.length_take, Nat.min_eq_left (by omega)]
      by_cases h3 : j < k * 2 + 2
      · rw [if_pos (by simpa using h3)]
        rcases (show j - k * 2 = 0 ∨ j - k * 2 = 1 by omega) with e | e <;> rw [e] <;> rfl
      · rw [if_neg (by simpa using h3), getElem?_lay _ _ _ (by omega), if_neg (by omega), if_pos (by rw [hd]; omega), flat_drop]
        obtain ⟨d, hd'⟩ : ∃ d, j = k * 2 + 2 + d := ⟨j - (k * 2 + 2), by omega⟩
        subst hd'
        rw [show k * 2 + 2 + d - k * 2 = d + 1 + 1 by omega, show k * 2 + 2 + d - (k + 1) * 2 = d by omega]
        rfl
  · rw [List.getElem?_eq_none (by rw [List.length_take]; omega), List.getElem?_eq_none (by simp only [List.length_append, List.length_take, List.length_cons, List.length_drop]; omega)]

set_option maxRecDepth 100000 in
set_option maxHeartbeats 2000000 in
theorem insert_shift {w : World} {g c n k : Nat} {cur : List Value} {l : List (Int × Int)} (hg : Lies w g 103 cur.toArray) (hn : l.length = n) (hnc : n + 1 ≤ c) (hcm : c ≤ maxLen) (hs : cur.length = c * 2) (ht : cur.take (l.length * 2) = flat l) (hk : k < n) (hl : n ≤ 1000) (b : Nat) (x : Int × Int)
    (hb : Lies w b 103 #[.int .i64 x.1, .int .i64 x.2]) (hne : b ≠ g) :
    Calls Try.prog 74 #[.slice (some ⟨g, 0, none⟩) n c, .int .i64 (k : Int), .slice (some ⟨b, 0, none⟩) 1 1] w (InsPost w (some ⟨g, 0, none⟩) l k x) := by
  have hd : (flat (l.drop k)).length = (n - k) * 2 := by rw [flat_length, List.length_drop, hn]
  obtain ⟨w1, hr1, hg1, hw1⟩ := copy_run (w := w.drew) (cur := cur) hg ((k + 1) * 2) (n + 1 - (k + 1)) (c - (k + 1)) (n + 1 - k) (c - k) (n - k) (by simp only [Nat.min_def]; split <;> omega) ⟨g, k * 2, none⟩ (flat (l.drop k)) hd
    (fun j v hj => by
      rw [Addr.add_lit]
      show w.cell? _ = _
      rw [hg.cell, List.getElem?_toArray]
      rw [flat_drop, List.getElem?_drop, ← ht, List.getElem?_take] at hj
      split at hj
      · exact hj
      · cases hj) (by rw [hd]; omega) (flat_one _)
  have hlen1 : (lay cur ((k + 1) * 2) (flat (l.drop k))).length = c * 2 := by rw [length_lay _ _ _ (by rw [hd]; omega), hs]
  have hb1 : Lies w1 b 103 #[.int .i64 x.1, .int .i64 x.2] := hb.of_same (hw1.block b hb.lt (by simpa using hne))
  obtain ⟨w2, hr2, hg2, hw2⟩ := copy_run (w := w1) hg1 (k * 2) (n + 1 - k) (c - k) 1 1 1 (by simp only [Nat.min_def]; split <;> omega) ⟨b, 0, none⟩ [.int .i64 x.1, .int .i64 x.2] rfl
    (fun j u hu => by
      rw [Addr.add_lit, Nat.zero_add, hb1.cell]
      match j, hu with
      | 0, hu => simpa using hu
      | 1, hu => simpa using hu) (by rw [hlen1]; simp; omega) (by simp [Value.oneCell'])
  have hov := fun lb cb => overlaps_no w b g ((k + 1) * 2) 1 1 lb cb x cur.toArray hb hg hne (by rw [List.size_toArray]; omega)
  obtain ⟨A0, q0⟩ := cut_lo_any (some ⟨g, 0, none⟩) n c k (by omega) (by omega)
  have q1 := fun W => cut_hi W (some ⟨g, 0, none⟩) n c (n + 1) (by omega) (fun a e => by cases e; exact ⟨_, _, rfl⟩)
  obtain ⟨a2, q2, ha2⟩ := cut_lo g (n + 1) c (k + 1) (by omega) (by omega)
  obtain ⟨a3, q3, ha3⟩ := cut_lo g (n + 1) c k (by omega) (by omega)
  have ea3 := ha3 (by omega)
  subst ea3
  have ek : ((k + 1 : Nat) : Int) = (k : Int) + 1 := by omega
  have en : ((n + 1 : Nat) : Int) = (n : Int) + 1 := by omega
  simp only [ek] at q2
  simp only [en] at q1
  have z1 : ((k : Int) == (n : Int)) = false := by simp; omega
  have z2 : decide ((c : Int) < (n : Int) + 1) = false := by simp; omega
  have z3 : ¬ (k = n) := by omega
  have hkn : k ≤ n := by omega
  have hw : IntKind.i64.wrap ((k : Int) + 1) = (k : Int) + 1 := IntWalk.i64_in _ (by omega)
  have HH2 := Lib.hid ha2
  have HRES : Hid (InsPost w (some ⟨g, 0, none⟩) l k x (.returned (.slice (some ⟨g, 0, none⟩) (n + 1) c)) w2) := ⟨some ⟨g, 0, none⟩, c, by rw [length_ins _ _ _ (by omega), hn],
    RowsAt.mk hg2 (by rw [length_ins _ _ _ (by omega)]; omega) hcm (by rw [length_lay _ _ _ (by rw [hlen1]; simp; omega), hlen1]) (by rw [length_ins _ _ _ (by omega)]; exact two_lay cur l k x (by omega) (by omega) ht),
    ⟨hw2.os.trans hw1.os, hw2.tape.trans hw1.tape, hw2.output.trans hw1.output, Nat.le_trans hw1.size hw2.size, fun i hi hne' => (hw2.block i (Nat.lt_of_lt_of_le hi hw1.size) hne').trans (hw1.block i hi hne')⟩, fun g' e => .inl e⟩
  unfold maxLen at hcm
  clear ha2 hg2 hw1 hw2 hg1 hb1 hlen1 ha3 ek en hd hs ht hg hb hn
  have hkc := HH2.out (by omega)
  subst hkc
  go_enter Try.func74, Try.ntmps74
  go_wp2_with (simp only [hov])
  go_region_law (refine step_copy_eq rfl _ _ 92 92 3 rfl rfl (by simp [Act.eval, Act.put]) (by simp [Act.eval, Act.put]) hr1 ?_)
  go_wp2
  go_ret
  exact HRES.out

theorem lay_two (cur : List Value) (l : List (Int × Int)) (k : Nat) (x : Int × Int) (hk : k < l.length) (hfit : (l.length + 1) * 2 ≤ cur.length) (ht : cur.take (k * 2) = flat (l.take k)) :
    (lay (lay cur (k * 2) [.int .i64 x.1, .int .i64 x.2]) ((k + 1) * 2) (flat (l.drop k))).take ((l.length + 1) * 2) = flat (ins l k x) := by
  have hd : (flat (l.drop k)).length = (l.length - k) * 2 := by rw [flat_length, List.length_drop]
  have h1 : (lay cur (k * 2) [.int .i64 x.1, .int .i64 x.2]).length = cur.length := length_lay _ _ _ (by simp; omega)
  have e := take_lay_end (lay cur (k * 2) [.int .i64 x.1, .int .i64 x.2]) ((k + 1) * 2) (flat (l.drop k)) (by omega)
  rw [hd, show (k + 1) * 2 + (l.length - k) * 2 = (l.length + 1) * 2 by omega] at e
  rw [e]
  have e2 := take_lay_end cur (k * 2) [.int .i64 x.1, .int .i64 x.2] (by omega)
  rw [show k * 2 + [Value.int .i64 x.1, .int .i64 x.2].length = (k + 1) * 2 by simp; omega] at e2
  rw [e2, ht, flat_ins, ← flat_take, ← flat_drop]
  simp

set_option maxRecDepth 100000 in
set_option maxHeartbeats 2000000 in
theorem insert_grow {w : World} {g n k : Nat} {cur : List Value} {l : List (Int × Int)} (hg : Lies w g 103 cur.toArray) (hn : l.length = n) (hs : cur.length = n * 2) (ht : cur.take (l.length * 2) = flat l) (hk : k < n) (hl : n ≤ 1000) (b : Nat) (x : Int × Int)
    (hb : Lies w b 103 #[.int .i64 x.1, .int .i64 x.2]) :
    Calls Try.prog 74 #[.slice (some ⟨g, 0, none⟩) n n, .int .i64 (k : Int), .slice (some ⟨b, 0, none⟩) 1 1] w (InsPost w (some ⟨g, 0, none⟩) l k x) := by
  obtain ⟨i0, hi, hz0, hz1, hz2⟩ := info_parts infoRow
  have hcur : cur = flat l := by rw [← ht, List.take_of_length_le (by omega)]
  subst hcur
  have hft : (flat (l.take k)).length = k * 2 := by rw [flat_length, List.length_take]; omega
  have hd : (flat (l.drop k)).length = (n - k) * 2 := by rw [flat_length, List.length_drop, hn]
  have hold : (Builtin.firstCells i0.size k (.slice (some ⟨g, 0, none⟩) k n)).run Try.prog w.drew = .ok (flat (l.take k)).toArray w.drew := by
    rw [hz1]
    exact run_firstCells_some w.drew 2 k ⟨g, 0, none⟩ k n _ hft (fun j v hj => by
      rw [Addr.add_lit, Nat.zero_add]
      show w.cell? _ = _
      rw [hg.cell, List.getElem?_toArray]
      rw [flat_take, List.getElem?_take] at hj
      split at hj
      · exact hj
      · cases hj)
  have hgr := Lib.run_append_grow_zeros w 92 3 92 103 i0 _ .i64 .i64 Try.underlying92 Try.underlying3 hi hz0 (some ⟨g, 0, none⟩) k n _ hold (n + 1 - k) (by omega) (by omega) (by omega) (by omega) (by rw [hz2]; omega) (by rw [hz2]; exact growslice_fits (by omega) (by omega))
  rw [show k + (n + 1 - k) = n + 1 by omega] at hgr
  have hG1 := grownCap_ge w (n + 1) n 103
  have hG2 := grownCap_le_maxLen w (n + 1) n 103 (by unfold maxLen; omega)
  generalize grownCap w (n + 1) n 103 = G at hgr hG1 hG2
  obtain ⟨row, hrow⟩ : ∃ row : List Value, row.toArray = (flat (l.take k)).toArray ++ Builtin.zeroCells (Value.agg #[.int .i64 0, .int .i64 0]).cells (n + 1 - k) ++ Builtin.zeroCells (Value.agg #[.int .i64 0, .int .i64 0]).cells (G - (n + 1)) := ⟨_, Array.toArray_toList⟩
  have hrl : row.length = G * 2 := by
    have := congrArg Array.size hrow
    simp only [Array.size_append, size_zeroCells, List.size_toArray, hft] at this
    rw [this]
    have : (Value.agg #[.int .i64 0, .int .i64 0]).cells.size = 2 := rfl
    rw [this]
    omega
  have hrt : row.take (k * 2) = flat (l.take k) := by
    have e : row = flat (l.take k) ++ ((Builtin.zeroCells (Value.agg #[.int .i64 0, .int .i64 0]).cells (n + 1 - k)).toList ++ (Builtin.zeroCells (Value.agg #[.int .i64 0, .int .i64 0]).cells (G - (n + 1))).toList) := by
      have := congrArg Array.toList hrow
      simpa using this
    rw [e]
    exact List.take_left' hft
  rw [← hrow] at hgr
  clear hrow hold
  obtain ⟨w0, hw0⟩ : ∃ w0, w0 = w.drew.alloc (.cells row.toArray 103) := ⟨_, rfl⟩
  rw [← hw0] at hgr
  have hN : Lies w0 w.heap.size 103 row.toArray := by rw [hw0]; exact Lies.new w.drew 103 _
  have hsz0 : w0.heap.size = w.heap.size + 1 := by rw [hw0]; simp
  have hold0 : ∀ i, i < w.heap.size → w0.heap[i]? = w.heap[i]? := fun i hi => by rw [hw0]; exact Below.heap_alloc w.drew _ i hi
  have ho0 : w0.os = w.os ∧ w0.tape = w.tape ∧ w0.output = w.output := by rw [hw0]; exact ⟨rfl, rfl, rfl⟩
  have hb0 : Lies w0 b 103 #[.int .i64 x.1, .int .i64 x.2] := hb.of_same (hold0 b hb.lt)
  have hg0 : Lies w0 g 103 (flat l).toArray := hg.of_same (hold0 g hg.lt)
  have hgw := hg.lt
  clear hw0
  obtain ⟨w1, hr1, hg1, hw1⟩ := copy_run (w := w0) hN (k * 2) (n + 1 - k) (G - k) 1 1 1 (by simp only [Nat.min_def]; split <;> omega) ⟨b, 0, none⟩ [.int .i64 x.1, .int .i64 x.2] rfl
    (fun j u hu => by
      rw [Addr.add_lit, Nat.zero_add, hb0.cell]
      match j, hu with
      | 0, hu => simpa using hu
      | 1, hu => simpa using hu) (by rw [hrl]; simp; omega) (by simp [Value.oneCell'])
  have hlen1 : (lay row (k * 2) [.int .i64 x.1, .int .i64 x.2]).length = G * 2 := by rw [length_lay _ _ _ (by rw [hrl]; simp; omega), hrl]
  have hg1' : Lies w1 g 103 (flat l).toArray := hg0.of_same (hw1.block g hg0.lt (by simp; omega))
  obtain ⟨w2, hr2, hg2, hw2⟩ := copy_run (w := w1.drew) hg1 ((k + 1) * 2) (n + 1 - (k + 1)) (G - (k + 1)) (n - k) (n - k) (n - k) (by simp only [Nat.min_def]; split <;> omega) ⟨g, k * 2, none⟩ (flat (l.drop k)) hd
    (fun j v hj => by
      rw [Addr.add_lit]
      show w1.cell? _ = _
      rw [hg1'.cell, List.getElem?_toArray]
      rw [flat_drop, List.getElem?_drop] at hj
      exact hj) (by rw [hlen1, hd]; omega) (flat_one _)
  obtain ⟨a0, q0, ha0⟩ := cut_lo g n n k (by omega) (by omega)
  have q1 := fun W => cut_hi W (some ⟨g, 0, none⟩) n n k (by omega) (fun a e => by cases e; exact ⟨_, _, rfl⟩)
  obtain ⟨a2, q2, ha2⟩ := cut_lo w.heap.size (n + 1) G (k + 1) (by omega) (by omega)
  obtain ⟨a3, q3, ha3⟩ := cut_lo w.heap.size (n + 1) G k (by omega) (by omega)
  have ea0 := ha0 (by omega)
  have ea2 := ha2 (by omega)
  have ea3 := ha3 (by omega)
  subst ea0 ea2 ea3
  have ek : ((k + 1 : Nat) : Int) = (k : Int) + 1 := by omega
  have eh : ((n + 1 - k : Nat) : Int) = (n : Int) + 1 - (k : Int) := by omega
  simp only [ek] at q2
  rw [eh] at hgr
  have z1 : ((k : Int) == (n : Int)) = false := by simp; omega
  have z2 : decide ((n : Int) < (n : Int) + 1) = true := by simp; omega
  have z3 : ¬ (k = n) := by omega
  have hkn : k ≤ n := by omega
  have hw : IntKind.i64.wrap ((k : Int) + 1) = (k : Int) + 1 := IntWalk.i64_in _ (by omega)
  have hw3 : IntKind.i64.wrap ((n : Int) + 1 - (k : Int)) = (n : Int) + 1 - (k : Int) := IntWalk.i64_in _ (by omega)
  have HRES : Hid (InsPost w (some ⟨g, 0, none⟩) l k x (.returned (.slice (some ⟨w.heap.size, 0, none⟩) (n + 1) G)) w2) := ⟨some ⟨w.heap.size, 0, none⟩, G, by rw [length_ins _ _ _ (by omega), hn],
    RowsAt.mk hg2 (by rw [length_ins _ _ _ (by omega)]; omega) hG2 (by rw [length_lay _ _ _ (by rw [hlen1, hd]; omega), hlen1]) (by rw [length_ins _ _ _ (by omega)]; exact lay_two row l k x (by omega) (by omega) hrt),
    ⟨hw2.os.trans (hw1.os.trans ho0.1), hw2.tape.trans (hw1.tape.trans ho0.2.1), hw2.output.trans (hw1.output.trans ho0.2.2), Nat.le_trans (by omega) (Nat.le_trans hw1.size hw2.size),
      fun i hi hne' => (hw2.block i (Nat.lt_of_lt_of_le (by omega) hw1.size) (by simp; omega)).trans ((hw1.block i (by omega) (by simp; omega)).trans (hold0 i hi))⟩, fun g' e => by cases e; exact .inr (Nat.le_refl _)⟩
  unfold maxLen at hG2
  generalize w.heap.size = B at *
  have HGR := Lib.hid hgr
  have HR2 := Lib.hid hr2
  clear hgr hr2 ha2 hg2 hw1 hw2 hg1 hb0 hg0 hg1' hlen1 ha3 ha0 ek eh hd hs ht hg hb hn hi hz0 hz1 hz2 hold0 ho0 hN hsz0 hrl hrt hft
  go_enter Try.func74, Try.ntmps74
  go_wp2_with (at_builtin; refine wpList_append_eq rfl _ _ 92 3 rfl rfl rfl rfl HGR.out ?_)
  go_region_law (refine step_copy_eq rfl _ _ 92 92 3 rfl rfl (by simp [Act.eval, Act.put]) (by simp [Act.eval, Act.put]) HR2.out ?_)
  go_wp2
  go_ret
  exact HRES.out

/-- **slices.Insert** of one row -/
theorem insert_any {w : World} {A : Option Addr} {c : Nat} {l : List (Int × Int)} (h : RowsAt w A c l) (hl : l.length ≤ 1000) (k : Nat) (hk : k ≤ l.length) (b : Nat) (x : Int × Int) (hb : Lies w b 103 #[.int .i64 x.1, .int .i64 x.2]) (hne : rowOf A ≠ some b) :
    Calls Try.prog 74 #[.slice A l.length c, .int .i64 (k : Int), .slice (some ⟨b, 0, none⟩) 1 1] w (InsPost w A l k x) := by
  rcases Nat.lt_or_ge k l.length with hkl | hkl
  · obtain ⟨g, cur, rfl, hg, hnc, hcm, hs, ht⟩ := h.block (by omega)
    by_cases hc : l.length + 1 ≤ c
    · exact insert_shift hg rfl hc hcm hs ht hkl hl b x hb (fun e => hne (by rw [e]; rfl))
    · obtain rfl : c = l.length := by omega
      exact insert_grow hg rfl hs ht hkl hl b x hb
  · obtain rfl : k = l.length := by omega
    exact insert_end h hl b x hb

end Go.Proofs.Ytpidjekabnnmcaa.find
