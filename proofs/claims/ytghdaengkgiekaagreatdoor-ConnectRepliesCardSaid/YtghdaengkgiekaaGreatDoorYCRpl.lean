/-
  Given for the seat's laws: the table of what a client is told, the contracts of connect.reasonOf, connect.Status. No condition but those of the theorems.
-/
import Derived.Test.YtghdaengkgiekaaGreatDoorYCTake
namespace Go.Proofs.YtghdaengkgiekaaGreatDoor.cn
open Go.RowKit mem hd
set_option linter.unusedVariables false

def rs : List (Nat × Str) := [(200, [67, 111, 110, 110, 101, 99, 116, 105, 111, 110, 32, 101, 115, 116, 97, 98, 108, 105, 115, 104, 101, 100]), (400, [66, 97, 100, 32, 82, 101, 113, 117, 101, 115, 116]), (407, [80, 114, 111, 120, 121, 32, 65, 117, 116, 104, 101, 110, 116, 105, 99, 97, 116, 105, 111, 110, 32, 82, 101, 113, 117, 105, 114, 101, 100]), (405, [77, 101, 116, 104, 111, 100, 32, 78, 111, 116, 32, 65, 108, 108, 111, 119, 101, 100]), (400, [66, 97, 100, 32, 82, 101, 113, 117, 101, 115, 116]), (431, [82, 101, 113, 117, 101, 115, 116, 32, 72, 101, 97, 100, 101, 114, 32, 70, 105, 101, 108, 100, 115, 32, 84, 111, 111, 32, 76, 97, 114, 103, 101]), (408, [82, 101, 113, 117, 101, 115, 116, 32, 84, 105, 109, 101, 111, 117, 116]), (503, [83, 101, 114, 118, 105, 99, 101, 32, 85, 110, 97, 118, 97, 105, 108, 97, 98, 108, 101]), (508, [76, 111, 111, 112, 32, 68, 101, 116, 101, 99, 116, 101, 100]), (403, [70, 111, 114, 98, 105, 100, 100, 101, 110]), (429, [84, 111, 111, 32, 77, 97, 110, 121, 32, 82, 101, 113, 117, 101, 115, 116, 115]), (503, [83, 101, 114, 118, 105, 99, 101, 32, 85, 110, 97, 118, 97, 105, 108, 97, 98, 108, 101]), (502, [66, 97, 100, 32, 71, 97, 116, 101, 119, 97, 121]), (504, [71, 97, 116, 101, 119, 97, 121, 32, 84, 105, 109, 101, 111, 117, 116])]
def rsn (c : Nat) : Nat × Str := (rs[c]?).getD (400, [66, 97, 100, 32, 82, 101, 113, 117, 101, 115, 116])
def rcells : List Value := rs.flatMap fun p => [.int .i64 (p.1 : Int), .string (S p.2)]
/-- the table in memory -/
structure Rsn (w : World) : Prop where
  cell : ∀ i v, rcells[i]? = some v → w.cell? ⟨0, i, none⟩ = some v
theorem Rsn.below {w w' : World} (h : Rsn w) (hb : Below w.heap.size w w') : Rsn w' := ⟨fun i v hv => hw.cell_kept (h.cell i v hv) hb⟩
theorem results_rs {W : World} {h : Nat} {v0 v1 : Value} (hl : Lies W h 65 #[v0, v1]) (tmps : Array Value) (h2 : tmps[2]?.getD undef = .pointer (some ⟨h, 0, none⟩)) :
    (results Tryz.f32 tmps).run Tryz.prog W = .ok (.agg #[v0, v1]) W := by
  have c0 := hl.cell 0
  have c1 := hl.cell 1
  simp at c0 c1
  simp [results, Tryz.results32, go_sem, h2, c0, c1]
theorem rs_put {w W : World} {h : Nat} {x y : Value} (hl : Lies W h 65 #[x, y]) (hb : Below w.heap.size w W) (hh : w.heap.size ≤ h) (u v : Value) :
    Lies ((W.setCell ⟨h, 0, none⟩ u).setCell ⟨h, 1, none⟩ v) h 65 #[u, v] ∧ Below w.heap.size w ((W.setCell ⟨h, 0, none⟩ u).setCell ⟨h, 1, none⟩ v) := by
  refine ⟨?_, ?_⟩
  · have := (hl.set 0 u).set 1 v
    simpa using this
  · exact Below.setCell (p := ⟨h, 1, none⟩) (Below.setCell (p := ⟨h, 0, none⟩) hb hh u) hh v
set_option maxRecDepth 100000 in
set_option maxHeartbeats 4000000 in
theorem reasonOf_any {w : World} (he : Rsn w) (c : Nat) (hc : c < 256) : Calls Tryz.prog 32 #[.int .u8 (c : Int)] w (Gives (.agg #[.int .i64 ((rsn c).1 : Int), .string (S (rsn c).2)]) w) := by
  have hb0 : Below w.heap.size w (w.alloc (.cells #[.int .i64 0, .string ⟨#[]⟩] 65)) := (Below.refl _ _).alloc (Nat.le_refl _) _
  have HR := Bx.mk (he.below hb0)
  obtain ⟨W1, hW1⟩ : ∃ W1, W1 = w.alloc (.cells #[.int .i64 0, .string ⟨#[]⟩] 65) := ⟨_, rfl⟩
  have HL : Bx (Lies W1 w.heap.size 65 #[.int .i64 0, .string ⟨#[]⟩]) := ⟨by rw [hW1]; exact Lies.new w _ _⟩
  rw [← hW1] at hb0 HR
  have HP := Bx.mk (fun u v => rs_put HL.out hb0 (Nat.le_refl _) u v)
  have f0 := HL.out.frozen 0; have f1 := HL.out.frozen 1
  have c0 : W1.cell? ⟨w.heap.size, 0, none⟩ = some (.int .i64 0) := by have := HL.out.cell 0; simpa using this
  have c1 : W1.cell? ⟨w.heap.size, 1, none⟩ = some (.string ⟨#[]⟩) := by have := HL.out.cell 1; simpa using this
  obtain ⟨st, hst⟩ : ∃ st, ((rsn c).1 : Int) = st := ⟨_, rfl⟩
  obtain ⟨tx, htx⟩ : ∃ tx, S (rsn c).2 = tx := ⟨_, rfl⟩
  rw [hst, htx]
  have hcs : c < 14 → c = 0 ∨ c = 1 ∨ c = 2 ∨ c = 3 ∨ c = 4 ∨ c = 5 ∨ c = 6 ∨ c = 7 ∨ c = 8 ∨ c = 9 ∨ c = 10 ∨ c = 11 ∨ c = 12 ∨ c = 13 := by omega
  have hy : W1.cell? ⟨0, 2 * (if c < 14 then c else 1), none⟩ = some (.int .i64 st) ∧ W1.cell? ⟨0, 2 * (if c < 14 then c else 1) + 1, none⟩ = some (.string tx) := by
    rw [← hst, ← htx]
    by_cases h14 : c < 14
    · rw [if_pos h14]
      rcases hcs h14 with rfl | rfl | rfl | rfl | rfl | rfl | rfl | rfl | rfl | rfl | rfl | rfl | rfl | rfl <;> exact ⟨HR.out.cell _ _ rfl, HR.out.cell _ _ rfl⟩
    · rw [if_neg h14]
      have e : rsn c = (400, [66, 97, 100, 32, 82, 101, 113, 117, 101, 115, 116]) := by unfold rsn; rw [List.getElem?_eq_none (by simp [rs]; omega)]; rfl
      rw [e]
      exact ⟨HR.out.cell _ _ rfl, HR.out.cell _ _ rfl⟩
  have HF : Bx (Gives (.agg #[.int .i64 st, .string tx]) w (.returned (.agg #[.int .i64 st, .string tx])) ((W1.setCell ⟨w.heap.size, 0, none⟩ (.int .i64 st)).setCell ⟨w.heap.size, 1, none⟩ (.string tx))) := ⟨⟨rfl, (HP.out (.int .i64 st) (.string tx)).2⟩⟩
  have HP2 := Bx.mk (HP.out (.int .i64 st) (.string tx)).1
  clear he hb0 HL HP HR hst htx
  go_enter Tryz.func32, Tryz.ntmps32
  go_upto_region 1 with fail
  rw [← hW1]
  clear hW1
  obtain ⟨h, hh⟩ : ∃ h, w.heap.size = h := ⟨_, rfl⟩
  rw [hh] at c0 c1 f0 f1 HF HP2 ⊢
  clear hh
  by_cases h14 : c < 14
  · rw [if_pos h14] at hy
    rcases hcs h14 with rfl | rfl | rfl | rfl | rfl | rfl | rfl | rfl | rfl | rfl | rfl | rfl | rfl | rfl
    all_goals
      obtain ⟨y0, y1⟩ := hy
      simp only [Nat.reduceMul, Nat.reduceAdd] at y0 y1
      clear h14 hcs
      go_wp2_with fail
      exact bodyPost_ret (results_rs HP2.out _ rfl) rfl HF.out
  · rw [if_neg h14] at hy
    obtain ⟨y0, y1⟩ := hy
    simp only [Nat.reduceMul, Nat.reduceAdd] at y0 y1
    have q : (14 : Int) ≤ (c : Int) := by omega
    have q0 : (0 : Int) ≤ (c : Int) := by omega
    have q1 : (c : Int) < 256 := by omega
    clear h14 hcs hc
    go_wp2_with fail
    exact bodyPost_ret (results_rs HP2.out _ rfl) rfl HF.out
set_option maxRecDepth 100000 in
theorem fld0 (W : World) (st : Int) (tx : ByteArray) : (Instr.field 65 (.agg #[.int .i64 st, .string tx]) 0).run Tryz.prog W = .ok (.int .i64 st) W := rfl
set_option maxRecDepth 100000 in
theorem status_any {w : World} (he : Rsn w) (c : Nat) (hc : c < 256) : Calls Tryz.prog 14 #[.int .u8 (c : Int)] w (Gives (.int .i64 ((rsn c).1 : Int)) w) := by
  have H := Bx.mk (reasonOf_any he c hc)
  clear he
  generalize S (rsn c).2 = tx at *
  generalize ((rsn c).1 : Int) = st at *
  have hfd := fun W => fld0 W st tx
  go_enter Tryz.func14, Tryz.ntmps14
  go_wp2_with fail
  refine H.out.mono ?_
  rintro e w1 ⟨rfl, hb⟩
  have HB := Bx.mk hb
  clear hb H
  go_wp2_with fail
  exact bodyPost_ret (v := .int .i64 st) (by simp [results, Tryz.results14, go_sem]) rfl ⟨rfl, HB.out⟩
end Go.Proofs.YtghdaengkgiekaaGreatDoor.cn
