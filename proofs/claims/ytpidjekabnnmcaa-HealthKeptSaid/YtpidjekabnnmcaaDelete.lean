/-
  Given for the seat's laws: the contract of slices.Delete of one row. No condition but those of the theorems.
-/
import Derived.Test.YtpidjekabnnmcaaInsert
namespace Go.Proofs.Ytpidjekabnnmcaa.find
open Go.RowKit mem
set_option linter.unusedVariables false

def del (l : List (Int × Int)) (k : Nat) : List (Int × Int) := l.take k ++ l.drop (k + 1)
theorem length_del (l : List (Int × Int)) (k : Nat) (h : k < l.length) : (del l k).length = l.length - 1 := by simp [del]; omega
theorem flat_del (l : List (Int × Int)) (k : Nat) : flat (del l k) = (flat l).take (k * 2) ++ (flat l).drop ((k + 1) * 2) := by
  unfold del
  rw [flat_append, flat_take, flat_drop]

/-- what Delete leaves -/
structure DelPost (w : World) (A : Option Addr) (c : Nat) (l : List (Int × Int)) (k : Nat) (e : Ending) (w' : World) : Prop where
  eq : e = .returned (.slice A (l.length - 1) c)
  rows : RowsAt w' A c (del l k)
  grown : w.grownBy w' (rowOf A)

theorem zeros2 : (Builtin.zeroCells (Value.agg #[.int .i64 0, .int .i64 0]).cells 1).toList = [.int .i64 0, .int .i64 0] := by kernel_rfl

theorem clear_run {w : World} {g : Nat} {cur : List Value} (hg : Lies w g 103 cur.toArray) (o c : Nat) (hfit : o + 2 ≤ cur.length) :
    ∃ w', (Builtin.clear_ #[92] 0 #[.slice (some ⟨g, o, none⟩) 1 c]).run Try.prog w = .ok (.tuple #[]) w' ∧ Lies w' g 103 (lay cur o [.int .i64 0, .int .i64 0]).toArray ∧ w.grownBy w' (some g) := by
  obtain ⟨i0, hi, hz0, hz1, hz2⟩ := info_parts infoRow
  have hst := run_storeCells_at Try.prog g o 103 [.int .i64 0, .int .i64 0] 0 cur.toArray w hg (by simpa using hfit) (by simp [Value.oneCell'])
  refine ⟨w.setRow g (lay cur o [.int .i64 0, .int .i64 0]).toArray, ?_, setRow_heap w g _ _ 103 _ hg, ⟨rfl, rfl, rfl, by simp, fun k _ hk => setRow_other w g k _ (fun e => hk (by rw [e]))⟩⟩
  simp only [Nat.add_zero] at hst
  simp [Builtin.clear_, run_underlying Try.underlying92, zeroValue, typeInfo, hi, hz0, zeros2, hst, lay]

set_option maxRecDepth 100000 in
set_option maxHeartbeats 2000000 in
theorem delete_any {w : World} {A : Option Addr} {c : Nat} {l : List (Int × Int)} (h : RowsAt w A c l) (hl : l.length ≤ 1000) (k : Nat) (hk : k < l.length) :
    Calls Try.prog 66 #[.slice A l.length c, .int .i64 (k : Int), .int .i64 ((k : Int) + 1)] w (DelPost w A c l k) := by
  obtain ⟨i0, hi, hz0, hz1, hz2⟩ := info_parts infoRow
  obtain ⟨g, cur, rfl, hg, hnc, hcm, hs, ht⟩ := h.block (by omega)
  obtain ⟨n, hn⟩ : ∃ n, l.length = n := ⟨_, rfl⟩
  obtain ⟨p, hp⟩ : ∃ p, n = p + 1 := ⟨n - 1, by omega⟩
  rw [hn] at hnc hk hl ⊢
  have hn2 := hn
  have hd : (flat (l.drop (k + 1))).length = (n - (k + 1)) * 2 := by rw [flat_length, List.length_drop, hn]
  obtain ⟨a1, q1, ha1⟩ := cut_lo g n c (k + 1) (by omega) (by omega)
  have hap := run_append_room (P := Try.prog) w.drew 92 92 103 i0 Try.underlying92 hi g k c cur.toArray hg ⟨g, a1, none⟩ (n - (k + 1)) (c - (k + 1)) (flat (l.drop (k + 1))) (by rw [hd, hz1])
    (fun j v hj => by
      have hlt := (List.getElem?_eq_some_iff.1 hj).1
      rw [hd] at hlt
      rw [ha1 (by omega), Addr.add_lit]
      show w.cell? _ = _
      rw [hg.cell, List.getElem?_toArray]
      rw [flat_drop, List.getElem?_drop, ← ht, List.getElem?_take] at hj
      split at hj
      · exact hj
      · cases hj) (flat_one _) (by omega) (by rw [hz1, hd, List.size_toArray]; omega)
  rw [show k + (n - (k + 1)) = p by omega, hz1] at hap
  obtain ⟨w1, hw1⟩ : ∃ w1, w1 = w.drew.setRow g (cur.take (k * 2) ++ flat (l.drop (k + 1)) ++ cur.drop (k * 2 + (flat (l.drop (k + 1))).length)).toArray := ⟨_, rfl⟩
  have hap1 : (Builtin.append_ #[92, 92] 92 #[.slice (some ⟨g, 0, none⟩) k c, .slice (some ⟨g, a1, none⟩) (n - (k + 1)) (c - (k + 1))]).run Try.prog w.drew = .ok (.slice (some ⟨g, 0, none⟩) p c) w1 := by rw [hw1]; exact hap
  have hg1 : Lies w1 g 103 (lay cur (k * 2) (flat (l.drop (k + 1)))).toArray := by rw [hw1]; exact setRow_heap w.drew g _ _ 103 _ hg
  have hgr1 : w.grownBy w1 (some g) := by rw [hw1]; exact ⟨rfl, rfl, rfl, by simp, fun i _ hi => setRow_other w.drew g i _ (fun e => hi (by rw [e]))⟩
  clear hw1 hap
  have hlen1 : (lay cur (k * 2) (flat (l.drop (k + 1)))).length = c * 2 := by rw [length_lay _ _ _ (by rw [hd]; omega), hs]
  obtain ⟨w2, hr2, hg2, hw2⟩ := clear_run hg1 (p * 2) (c - p) (by rw [hlen1]; omega)
  obtain ⟨v0, q0⟩ := cut_lhm g n c k (k + 1) n (by omega) (by omega) (by omega)
  have q2 := fun W => cut_hi W (some ⟨g, 0, none⟩) n c k (by omega) (fun a e => by cases e; exact ⟨_, _, rfl⟩)
  have q3 := fun W => cut_lh W g p c p n (by omega) (by omega)
  rw [show n - p = 1 by omega] at q3
  have ek : ((k + 1 : Nat) : Int) = (k : Int) + 1 := by omega
  simp only [ek] at q1 q0
  have HRES : Hid (DelPost w (some ⟨g, 0, none⟩) c l k (.returned (.slice (some ⟨g, 0, none⟩) p c)) w2) := by
    have hdl : (del l k).length = p := by rw [length_del _ _ (by omega)]; omega
    refine ⟨by rw [hn, show n - 1 = p by omega], RowsAt.mk hg2 (by omega) hcm (by rw [length_lay _ _ _ (by rw [hlen1]; simp; omega), hlen1]) ?_, ?_⟩
    · rw [hdl, take_lay _ _ _ _ (by rw [hlen1]; omega) (Nat.le_refl _)]
      have e := take_lay_end cur (k * 2) (flat (l.drop (k + 1))) (by omega)
      rw [hd, show k * 2 + (n - (k + 1)) * 2 = p * 2 by omega] at e
      rw [e, flat_del, ← flat_drop]
      congr 1
      rw [← ht, List.take_take, Nat.min_eq_left (by omega)]
    · exact ⟨hw2.os.trans hgr1.os, hw2.tape.trans hgr1.tape, hw2.output.trans hgr1.output, Nat.le_trans hgr1.size hw2.size, fun i hi hne' => (hw2.block i (Nat.lt_of_lt_of_le hi hgr1.size) hne').trans (hgr1.block i hi hne')⟩
  have z1 : ((k : Int) == (k : Int) + 1) = false := by simp; omega
  have HAP := Lib.hid hap1
  have HR2 := Lib.hid hr2
  clear hap1 hr2 hg2 hw2 hgr1 hg1 hlen1 ha1 hd ht hs hg h hi hz0 hz1 hz2 hn hn2 ek
  unfold maxLen at hcm
  have hp' := hp
  have HP := Lib.hid hp
  clear hp hp'
  have hkn : k < n := hk
  go_enter Try.func66, Try.ntmps66
  go_wp2
  go_region_law (refine step_append_eq rfl _ _ 92 92 rfl rfl (by simp [Act.eval, Act.put]) (by simp [Act.eval, Act.put]) HAP.out ?_)
  go_wp2_with (refine wpList_clear_eq rfl _ 92 0 rfl rfl rfl HR2.out ?_)
  go_ret
  exact HRES.out

end Go.Proofs.Ytpidjekabnnmcaa.find
