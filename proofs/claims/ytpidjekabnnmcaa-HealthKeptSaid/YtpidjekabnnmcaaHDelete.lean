/-
  Given for the seat's laws: the contract of slices.Delete of one record's pointer. No condition but those of the theorems.
-/
import Derived.Test.YtpidjekabnnmcaaHFindP
namespace Go.Proofs.Ytpidjekabnnmcaa.hp
open Go.RowKit mem find pb
set_option linter.unusedVariables false

theorem elemRecs : Try.prog.elem 32 = 73 := by kernel_rfl
theorem run_size1 (W : World) : (sizeOf 73).run Try.prog W = .ok 1 W := by
  obtain ⟨i0, hi, hz0, hz1, hz2⟩ := info_parts infoPrec
  simp [sizeOf, typeInfo, hi, hz1]
theorem pcut_hi (W : World) (A : Option Addr) (l c n : Nat) (hc : n ≤ c) (hA : ∀ a, A = some a → ∃ g o, a = ⟨g, o, none⟩) :
    (Instr.slice 32 (.slice A l c) none (some (.int .i64 (n : Int))) none).run Try.prog W = .ok (.slice A n c) W := by
  rw [run_slice_h W 32 _ l c (by kernel_rfl) .i64 _ (by omega) (by omega), elemRecs, run_size1]
  cases A with
  | none => simp [Result.andThen, sliced]
  | some a => obtain ⟨g, o, rfl⟩ := hA a rfl; simp [Result.andThen, sliced, Addr.add]
theorem pcut_lo (g l c k : Nat) (hk : k ≤ l) (hc : l ≤ c) :
    ∃ a : Nat, (∀ W, (Instr.slice 32 (.slice (some ⟨g, 0, none⟩) l c) (some (.int .i64 (k : Int))) none none).run Try.prog W = .ok (.slice (some ⟨g, a, none⟩) (l - k) (c - k)) W) ∧ (k < c → a = k) := by
  refine ⟨if c = k then 0 else k, fun W => ?_, fun h => by rw [if_neg (by omega)]⟩
  rw [run_slice_l W 32 _ l c (by kernel_rfl) .i64 _ (by omega) (by omega), elemRecs, run_size1]
  simp only [Result.andThen, sliced, Int.toNat_natCast]
  split <;> simp [Addr.add_lit]
theorem pcut_lh (W : World) (g l c a b : Nat) (hab : a < b) (hb : b ≤ c) :
    (Instr.slice 32 (.slice (some ⟨g, 0, none⟩) l c) (some (.int .i64 (a : Int))) (some (.int .i64 (b : Int))) none).run Try.prog W = .ok (.slice (some ⟨g, a, none⟩) (b - a) (c - a)) W := by
  rw [run_slice_lh W 32 _ l c (by kernel_rfl) .i64 .i64 _ _ (by omega) (by omega) (by omega), elemRecs, run_size1]
  simp only [Result.andThen, sliced, Int.toNat_natCast, Option.map_some]
  rw [if_neg (by omega)]
  simp [Addr.add_lit]
theorem pcut_lhm (g l c a b m : Nat) (hab : a ≤ b) (hb : b ≤ m) (hm : m ≤ c) :
    ∃ v, ∀ W, (Instr.slice 32 (.slice (some ⟨g, 0, none⟩) l c) (some (.int .i64 (a : Int))) (some (.int .i64 (b : Int))) (some (.int .i64 (m : Int)))).run Try.prog W = .ok v W := by
  refine ⟨.slice ((some (⟨g, 0, none⟩ : Addr)).map fun x => if m - a = 0 then x else x.add (a * 1)) (b - a) (m - a), fun W => ?_⟩
  rw [run_slice_lhm W 32 _ l c (by kernel_rfl) .i64 .i64 .i64 _ _ _ (by omega) (by omega) (by omega) (by omega), elemRecs, run_size1]
  simp only [Result.andThen, sliced, Int.toNat_natCast]
  split
  · rename_i h; simp [h]
  · rename_i h; rw [Option.map_some, Option.map_some, if_neg (by omega)]

theorem PRow.block {w : World} {A : Option Addr} {c : Nat} {bs : List Nat} (h : PRow w A c bs) (hp : 0 < bs.length) :
    ∃ (g : Nat) (cur : List Value), A = some ⟨g, 0, none⟩ ∧ Lies w g 73 cur.toArray ∧ bs.length ≤ c ∧ c ≤ maxLen ∧ cur.length = c ∧ cur.take bs.length = bs.map bp := by
  rcases h.2 with ⟨he, h0⟩ | ⟨g, cap, cur, he, hb, hg, hn, hm, hs, ht⟩
  · omega
  · simp only [Value.slice.injEq] at he
    obtain ⟨rfl, _, rfl⟩ := he
    exact ⟨g, cur.toList, rfl, by simpa [Lies] using hg, hn, hm, by simpa using hs, by simpa using ht⟩
theorem PRow.mk {w : World} {g c : Nat} {cur : List Value} {bs : List Nat} (hg : Lies w g 73 cur.toArray) (hn : bs.length ≤ c) (hm : c ≤ maxLen) (hs : cur.length = c) (ht : cur.take bs.length = bs.map bp) : PRow w (some ⟨g, 0, none⟩) c bs :=
  ⟨by simp, .inr ⟨g, c, cur.toArray, rfl, Nat.zero_le _, hg, hn, hm, by simpa using hs, by simpa using ht⟩⟩

theorem pzeros : (Builtin.zeroCells (Value.pointer none).cells 1).toList = [.pointer none] := by kernel_rfl
theorem pclear_run {w : World} {g : Nat} {cur : List Value} (hg : Lies w g 73 cur.toArray) (o c : Nat) (hfit : o + 1 ≤ cur.length) :
    ∃ w', (Builtin.clear_ #[32] 0 #[.slice (some ⟨g, o, none⟩) 1 c]).run Try.prog w = .ok (.tuple #[]) w' ∧ Lies w' g 73 (lay cur o [.pointer none]).toArray ∧ w.grownBy w' (some g) := by
  obtain ⟨i0, hi, hz0, hz1, hz2⟩ := info_parts infoPrec
  have hst := run_storeCells_at Try.prog g o 73 [.pointer none] 0 cur.toArray w hg (by simpa using hfit) (by simp [Value.oneCell'])
  refine ⟨w.setRow g (lay cur o [.pointer none]).toArray, ?_, setRow_heap w g _ _ 73 _ hg, ⟨rfl, rfl, rfl, by simp, fun k _ hk => setRow_other w g k _ (fun e => hk (by rw [e]))⟩⟩
  simp only [Nat.add_zero] at hst
  simp [Builtin.clear_, run_underlying Try.underlying32, zeroValue, typeInfo, hi, hz0, pzeros, hst, lay]
theorem bp_one (bs : List Nat) : ∀ v ∈ bs.map bp, v.oneCell' = true := by
  intro v hv
  obtain ⟨x, _, rfl⟩ := List.mem_map.1 hv
  rfl

/-- what Delete leaves -/
structure PDel (w : World) (A : Option Addr) (c : Nat) (bs : List Nat) (k : Nat) (e : Ending) (w' : World) : Prop where
  eq : e = .returned (.slice A (bs.length - 1) c)
  rows : PRow w' A c (bs.eraseIdx k)
  grown : w.grownBy w' (rowOf A)

set_option maxRecDepth 100000 in
set_option maxHeartbeats 2000000 in
theorem pdelete_any {w : World} {A : Option Addr} {c : Nat} {l : List Nat} (h : PRow w A c l) (hl : l.length ≤ 1000) (k : Nat) (hk : k < l.length) :
    Calls Try.prog 49 #[.slice A l.length c, .int .i64 (k : Int), .int .i64 ((k : Int) + 1)] w (PDel w A c l k) := by
  obtain ⟨i0, hi, hz0, hz1, hz2⟩ := info_parts infoPrec
  obtain ⟨g, cur, rfl, hg, hnc, hcm, hs, ht⟩ := h.block (by omega)
  obtain ⟨n, hn⟩ : ∃ n, l.length = n := ⟨_, rfl⟩
  obtain ⟨p, hp⟩ : ∃ p, n = p + 1 := ⟨n - 1, by omega⟩
  rw [hn] at hnc hk hl ⊢
  have hn2 := hn
  have hd : ((l.drop (k + 1)).map bp).length = n - (k + 1) := by rw [List.length_map, List.length_drop, hn]
  obtain ⟨a1, q1, ha1⟩ := pcut_lo g n c (k + 1) (by omega) (by omega)
  have hap := run_append_room (P := Try.prog) w.drew 32 32 73 i0 Try.underlying32 hi g k c cur.toArray hg ⟨g, a1, none⟩ (n - (k + 1)) (c - (k + 1)) ((l.drop (k + 1)).map bp) (by rw [hd, hz1, Nat.mul_one])
    (fun j v hj => by
      have hlt := (List.getElem?_eq_some_iff.1 hj).1
      rw [hd] at hlt
      rw [ha1 (by omega), Addr.add_lit]
      show w.cell? _ = _
      rw [hg.cell, List.getElem?_toArray]
      rw [List.map_drop, List.getElem?_drop, ← ht, List.getElem?_take] at hj
      split at hj
      · exact hj
      · cases hj) (bp_one _) (by omega) (by rw [hz1, hd, List.size_toArray]; omega)
  rw [show k + (n - (k + 1)) = p by omega, hz1] at hap
  obtain ⟨w1, hw1⟩ : ∃ w1, w1 = w.drew.setRow g (cur.take (k * 1) ++ (l.drop (k + 1)).map bp ++ cur.drop (k * 1 + ((l.drop (k + 1)).map bp).length)).toArray := ⟨_, rfl⟩
  have hap1 : (Builtin.append_ #[32, 32] 32 #[.slice (some ⟨g, 0, none⟩) k c, .slice (some ⟨g, a1, none⟩) (n - (k + 1)) (c - (k + 1))]).run Try.prog w.drew = .ok (.slice (some ⟨g, 0, none⟩) p c) w1 := by rw [hw1]; exact hap
  rw [Nat.mul_one] at hw1
  have hg1 : Lies w1 g 73 (lay cur k ((l.drop (k + 1)).map bp)).toArray := by rw [hw1]; exact setRow_heap w.drew g _ _ 73 _ hg
  have hgr1 : w.grownBy w1 (some g) := by rw [hw1]; exact ⟨rfl, rfl, rfl, by simp, fun i _ hi => setRow_other w.drew g i _ (fun e => hi (by rw [e]))⟩
  clear hw1 hap
  have hlen1 : (lay cur k ((l.drop (k + 1)).map bp)).length = c := by rw [length_lay _ _ _ (by rw [hd]; omega), hs]
  obtain ⟨w2, hr2, hg2, hw2⟩ := pclear_run hg1 p (c - p) (by rw [hlen1]; omega)
  obtain ⟨v0, q0⟩ := pcut_lhm g n c k (k + 1) n (by omega) (by omega) (by omega)
  have q2 := fun W => pcut_hi W (some ⟨g, 0, none⟩) n c k (by omega) (fun a e => by cases e; exact ⟨_, _, rfl⟩)
  have q3 := fun W => pcut_lh W g p c p n (by omega) (by omega)
  rw [show n - p = 1 by omega] at q3
  have ek : ((k + 1 : Nat) : Int) = (k : Int) + 1 := by omega
  simp only [ek] at q1 q0
  have HRES : Hid (PDel w (some ⟨g, 0, none⟩) c l k (.returned (.slice (some ⟨g, 0, none⟩) p c)) w2) := by
    have hdl : (l.eraseIdx k).length = p := by rw [List.length_eraseIdx, hn, if_pos (by omega)]; omega
    refine ⟨by rw [hn, show n - 1 = p by omega], PRow.mk hg2 (by omega) hcm (by rw [length_lay _ _ _ (by rw [hlen1]; simp; omega), hlen1]) ?_, ?_⟩
    · rw [hdl, take_lay _ _ _ _ (by rw [hlen1]; omega) (Nat.le_refl _)]
      have e := take_lay_end cur k ((l.drop (k + 1)).map bp) (by omega)
      rw [hd, show k + (n - (k + 1)) = p by omega] at e
      rw [e, List.eraseIdx_eq_take_drop_succ, List.map_append]
      congr 1
      rw [List.map_take, ← ht, List.take_take, Nat.min_eq_left (by omega)]
    · exact ⟨hw2.os.trans hgr1.os, hw2.tape.trans hgr1.tape, hw2.output.trans hgr1.output, Nat.le_trans hgr1.size hw2.size, fun i hi hne' => (hw2.block i (Nat.lt_of_lt_of_le hi hgr1.size) hne').trans (hgr1.block i hi hne')⟩
  have z1 : ((k : Int) == (k : Int) + 1) = false := by simp; omega
  have HAP := Lib.hid hap1
  have HR2 := Lib.hid hr2
  clear hap1 hr2 hg2 hw2 hgr1 hg1 hlen1 ha1 hd ht hs hg h hi hz0 hz1 hz2 hn hn2 ek
  unfold maxLen at hcm
  have hp' := hp
  have HP := Lib.hid hp
  clear hp hp'
  have hkn : k < n := hk
  go_enter Try.func49, Try.ntmps49
  go_wp2
  go_region_law (refine step_append_eq rfl _ _ 32 32 rfl rfl (by simp [Act.eval, Act.put]) (by simp [Act.eval, Act.put]) HAP.out ?_)
  go_wp2_with (refine wpList_clear_eq rfl _ 32 0 rfl rfl rfl HR2.out ?_)
  go_ret
  exact HRES.out
end Go.Proofs.Ytpidjekabnnmcaa.hp
