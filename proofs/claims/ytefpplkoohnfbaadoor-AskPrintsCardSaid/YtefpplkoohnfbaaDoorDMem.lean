/-
  Given for the seat's laws: bytes as they lie in memory, more of it; the contracts of Number and Reply. No condition but those of the theorems.
-/
import Derived.Test.YtefpplkoohnfbaaDoorHOwn
import Derived.Test.YtefpplkoohnfbaaDoorHRMay
import Derived.Test.YtefpplkoohnfbaaDoorAKPure2
import Derived.Deep.RegionHeld3
import Derived.RegionTactic
import Derived.BigRegion
namespace Go.Proofs.YtefpplkoohnfbaaDoor.hw
/-- a fact kept shut: the walk can't look into it -/
structure Bx (p : Prop) : Prop where
  out : p
end Go.Proofs.YtefpplkoohnfbaaDoor.hw
namespace Go.Proofs.YtefpplkoohnfbaaDoor.ak
open Go.RowKit mem hostp hw own
set_option linter.unusedVariables false

/-- one byte more -/
theorem Made.push {w w1 : World} {v : Value} {l : Str} (h : Made w w1 v l) (hl : l.length ≤ 100000) (x : UInt8) :
    ∃ A c w2, (Builtin.append_ #[26, 26] 26 #[v, .slice (some ⟨w1.heap.size, 0, none⟩) 1 1]).run Tryd.prog (w1.alloc (.cells #[.int .u8 (x.toNat : Int)] 5)) = .ok (.slice A (l.length + 1) c) w2 ∧
      Made w w2 (.slice A (l.length + 1) c) (l ++ [x]) := by
  have h3 := own_same (w' := w1.alloc (.cells #[.int .u8 (x.toNat : Int)] 5)) h.own (fun g hg => Below.heap_alloc _ _ _ (own_lt h.own hg).2)
  obtain ⟨A2, c2, w2, happ, ho, hg, _⟩ := append_at h3 (src_lit w1 [(x.toNat : Int)] (0, 0) (by have := x.toNat_lt; simp; omega) (by simp)) (by simp; omega) (by simp; have := h.below.size; omega)
  refine ⟨A2, c2, w2, happ, ?_, ((h.below.alloc h.below.size _).grown hg (h.below.alloc h.below.size _).size (own_ge h3))⟩
  rw [ints_app]
  have : (l ++ [x]).length = l.length + 1 := by simp
  rw [this]
  exact ho

/-- the empty literal is the call's own -/
theorem own_empty (w : World) : (w.alloc (.cells #[] 5)).ownsRow w.heap.size 5 1 (.slice (some ⟨w.heap.size, 0, none⟩) 0 0) 0 (B8 (ints [])) :=
  ⟨rfl, .inr ⟨w.heap.size, 0, #[], rfl, Nat.le_refl _, heap_alloc_new w _, Nat.le_refl _, by unfold maxLen; omega, rfl, rfl⟩⟩
theorem made_empty (w : World) : Made w (w.alloc (.cells #[] 5)) (.slice (some ⟨w.heap.size, 0, none⟩) (0 : Nat) 0) [] := ⟨own_empty w, (Below.refl _ _).alloc (Nat.le_refl _) _⟩
theorem made_spell {w wr : World} {A : Option Addr} {n c : Nat} {b : Str} (h : Made w wr (.slice A n c) b) (hn : b.length = n) : Spell wr (fun g => g < wr.heap.size) A n c b := by
  subst hn
  exact (own_spell h.own).weak fun g hg => hg.2.1

theorem S_toList (l : Str) : (S l).toList = l := by rw [Lib.toList_data]; exact S_list l
theorem str_ne {a b : Str} (h : a ≠ b) : ((S a).toList == (S b).toList) = false ∧ ((S a).toList != (S b).toList) = true := by
  rw [S_toList, S_toList]
  have h1 : (a == b) = false := beq_eq_false_iff_ne.2 h
  exact ⟨h1, by simp [bne, h1]⟩
theorem str_eq (a : Str) : ((S a).toList == (S a).toList) = true ∧ ((S a).toList != (S a).toList) = false := by simp

/-! ### Number, Reply -/
def num : Nat → Nat := fun k => ([0, 1, 2, 7, 8, 1, 1, 1, 2, 2, 2, 3, 4, 6] : List Nat).getD k 1
/-- the table of numbers lies as it is laid -/
def Nums (w : World) : Prop := ∀ k, k < 14 → w.cell? ⟨0, k, none⟩ = some (.int .u8 (num k : Int))
theorem Nums.below {w w' : World} {B : Nat} (h : Nums w) (hb : Below B w w') (hB : w.heap.size ≤ B) : Nums w' := fun k hk => hw.cell_kept (h k hk) (hb.mono hB)
theorem num_lt (k : Nat) : num k ≤ 8 := by
  unfold num
  by_cases h : k < 14
  · have : ∀ i : Fin 14, ([0, 1, 2, 7, 8, 1, 1, 1, 2, 2, 2, 3, 4, 6] : List Nat).getD i.1 1 ≤ 8 := by decide
    exact this ⟨k, h⟩
  · rw [List.getD_eq_getElem?_getD, List.getElem?_eq_none (by simp; omega)]
    decide
theorem num_big {k : Nat} (h : 14 ≤ k) : num k = 1 := by
  unfold num
  rw [List.getD_eq_getElem?_getD, List.getElem?_eq_none (by simp; omega)]
  rfl
set_option maxHeartbeats 1000000 in
theorem number_any (k : Nat) (hk : k < 256) (w : World) (hN : Nums w) : Calls Tryd.prog 8 #[.int .u8 (k : Int)] w fun e w' => e = .returned (.int .u8 (num k : Int)) ∧ w' = w := by
  by_cases h : k < 14
  · have hc := hN k h
    have hz : ¬ (14 : Int) ≤ (k : Int) := by omega
    have hz2 : (k : Int) < 14 := by omega
    clear hN
    generalize (num k : Int) = z at *
    go_enter Tryd.func8, Tryd.ntmps8
    go_wp2_with fail
    exact bodyPost_ret (v := .int .u8 z) (by simp [results, Tryd.results8, go_sem]) rfl ⟨rfl, rfl⟩
  · rw [num_big (by omega)]
    have hz : (14 : Int) ≤ (k : Int) := by omega
    clear hN h
    go_enter Tryd.func8, Tryd.ntmps8
    go_wp2_with fail
    exact bodyPost_ret (v := .int .u8 1) (by simp [results, Tryd.results8, go_sem]) rfl ⟨rfl, rfl⟩
/-- the reply with a number -/
def rpl (m : Nat) : Str := [5, UInt8.ofNat m, 0, 1, 0, 0, 0, 0, 0, 0]
def MadeAt (l : Str) (w : World) (e : Ending) (w' : World) : Prop := ∃ A c, e = .returned (.slice A l.length c) ∧ Made w w' (.slice A l.length c) l
set_option maxHeartbeats 1000000 in
theorem reply_any (k : Nat) (hk : k < 256) (w : World) (hN : Nums w) : Calls Tryd.prog 6 #[.int .u8 (k : Int)] w (MadeAt (rpl (num k)) w) := by
  have HN := Bx.mk (number_any k hk w hN)
  have hm := num_lt k
  have e : ints (rpl (num k)) = [5, (num k : Int), 0, 1, 0, 0, 0, 0, 0, 0] := by
    have : (UInt8.ofNat (num k)).toNat = num k := by simp; omega
    simp [ints, rpl, this]
  have HM : Bx (Made w (w.alloc (.cells #[.int .u8 5, .int .u8 (num k : Int), .int .u8 0, .int .u8 1, .int .u8 0, .int .u8 0, .int .u8 0, .int .u8 0, .int .u8 0, .int .u8 0] 5)) (.slice (some ⟨w.heap.size, 0, none⟩) (rpl (num k)).length 10) (rpl (num k))) := by
    refine ⟨⟨?_, (Below.refl _ _).alloc (Nat.le_refl _) _⟩⟩
    rw [e]
    exact ⟨rfl, .inr ⟨w.heap.size, 10, _, rfl, Nat.le_refl _, heap_alloc_new w _, by show 10 ≤ 10; omega, by unfold maxLen; omega, rfl, rfl⟩⟩
  clear hN e
  generalize (num k : Int) = z at *
  have hl : (rpl (num k)).length = 10 := rfl
  unfold MadeAt
  rw [hl] at HM ⊢
  clear hl
  go_enter Tryd.func6, Tryd.ntmps6
  go_wp2_with fail
  refine HN.out.mono ?_
  rintro e w1 ⟨rfl, rfl⟩
  go_wp2_with fail
  exact bodyPost_ret (v := .slice (some ⟨w1.heap.size, 0, none⟩) 10 10) (by simp [results, Tryd.results6, go_sem]) rfl ⟨_, _, rfl, HM.out⟩
end Go.Proofs.YtefpplkoohnfbaaDoor.ak
