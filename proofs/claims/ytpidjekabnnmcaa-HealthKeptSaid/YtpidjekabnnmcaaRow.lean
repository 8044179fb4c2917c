/-
  Given for the seat's laws: a row of rows as a block that is known whole: cuts, copies, append, clear, at elements of two cells. No condition but those of the theorems.
-/
import Derived.Test.YtpidjekabnnmcaaFind
import Derived.Maps.AppendAt
import Derived.Deep.AppendLies
import Derived.Deep.RegionLaw
import Derived.Lib.AppendZerosOnto
import Derived.Lib.AppendZeros
import Derived.Laws.IdiomCopy
import Derived.Lib.Overlaps
import Derived.Laws.Externs
import Derived.RegionTactic
import Derived.IntWalk
namespace Go.Proofs.Ytpidjekabnnmcaa.find
open Go.RowKit mem
set_option linter.unusedVariables false

/-- xs laid over zs from place o on -/
def lay (zs : List Value) (o : Nat) (xs : List Value) : List Value := zs.take o ++ xs ++ zs.drop (o + xs.length)
theorem length_lay (zs : List Value) (o : Nat) (xs : List Value) (h : o + xs.length ≤ zs.length) : (lay zs o xs).length = zs.length := by simp [lay]; omega
theorem take_lay (zs : List Value) (o : Nat) (xs : List Value) (k : Nat) (h : o ≤ zs.length) (hk : k ≤ o) : (lay zs o xs).take k = zs.take k := by
  unfold lay
  rw [List.append_assoc, List.take_append_of_le_length (by rw [List.length_take]; omega), List.take_take, Nat.min_eq_left hk]
theorem take_lay_end (zs : List Value) (o : Nat) (xs : List Value) (h : o ≤ zs.length) : (lay zs o xs).take (o + xs.length) = zs.take o ++ xs := by
  unfold lay
  exact List.take_left' (by simp; omega)
theorem drop_lay (zs : List Value) (o : Nat) (xs : List Value) (k : Nat) (h : o ≤ zs.length) (hk : o + xs.length ≤ k) : (lay zs o xs).drop k = zs.drop k := by
  unfold lay
  obtain ⟨d, rfl⟩ : ∃ d, k = o + xs.length + d := ⟨k - (o + xs.length), by omega⟩
  rw [← List.drop_drop, List.drop_left' (by simp; omega), List.drop_drop]
theorem getElem?_lay (zs : List Value) (o : Nat) (xs : List Value) (h : o ≤ zs.length) (k : Nat) :
    (lay zs o xs)[k]? = if k < o then zs[k]? else if k < o + xs.length then xs[k - o]? else zs[k]? := by
  unfold lay
  by_cases h1 : k < o
  · rw [if_pos h1, List.append_assoc, List.getElem?_append_left (by simp; omega), List.getElem?_take, if_pos h1]
  · rw [if_neg h1]
    by_cases h2 : k < o + xs.length
    · rw [if_pos h2, List.getElem?_append_left (by simp; omega), List.getElem?_append_right (by simp; omega)]
      congr 1; simp; omega
    · rw [if_neg h2, List.getElem?_append_right (by simp; omega), List.getElem?_drop]
      congr 1; simp; omega

theorem infoRow : (Try.prog.info? 103).map (fun i => (i.zero, i.size, i.bytes)) = some (some (.agg #[.int .i64 0, .int .i64 0]), 2, 16) := by kernel_rfl
theorem sizeRow : (Try.prog.info? 103).map (·.size) = some 2 := by kernel_rfl
theorem run_size (W : World) : (sizeOf 103).run Try.prog W = .ok 2 W := by
  obtain ⟨i0, hi, hz0, hz1, hz2⟩ := info_parts infoRow
  simp [sizeOf, typeInfo, hi, hz1]
theorem elemRows : Try.prog.elem 92 = 103 := by kernel_rfl

/-! ### cuts -/
theorem cut_hi (W : World) (A : Option Addr) (l c n : Nat) (hc : n ≤ c) (hA : ∀ a, A = some a → ∃ g o, a = ⟨g, o, none⟩) :
    (Instr.slice 92 (.slice A l c) none (some (.int .i64 (n : Int))) none).run Try.prog W = .ok (.slice A n c) W := by
  rw [run_slice_h W 92 _ l c (by kernel_rfl) .i64 _ (by omega) (by omega), elemRows, run_size]
  cases A with
  | none => simp [Result.andThen, sliced]
  | some a => obtain ⟨g, o, rfl⟩ := hA a rfl; simp [Result.andThen, sliced, Addr.add]

theorem cut_lo (g l c k : Nat) (hk : k ≤ l) (hc : l ≤ c) :
    ∃ a : Nat, (∀ W, (Instr.slice 92 (.slice (some ⟨g, 0, none⟩) l c) (some (.int .i64 (k : Int))) none none).run Try.prog W = .ok (.slice (some ⟨g, a, none⟩) (l - k) (c - k)) W) ∧ (k < c → a = k * 2) := by
  refine ⟨if c = k then 0 else k * 2, fun W => ?_, fun h => by rw [if_neg (by omega)]⟩
  rw [run_slice_l W 92 _ l c (by kernel_rfl) .i64 _ (by omega) (by omega), elemRows, run_size]
  simp only [Result.andThen, sliced, Int.toNat_natCast]
  split <;> simp [Addr.add_lit]

theorem cut_lo_any (A : Option Addr) (l c k : Nat) (hk : k ≤ l) (hc : l ≤ c) :
    ∃ A', ∀ W, (Instr.slice 92 (.slice A l c) (some (.int .i64 (k : Int))) none none).run Try.prog W = .ok (.slice A' (l - k) (c - k)) W := by
  refine ⟨if c = k then A else A.map (·.add (k * 2)), fun W => ?_⟩
  rw [run_slice_l W 92 _ l c (by kernel_rfl) .i64 _ (by omega) (by omega), elemRows, run_size]
  simp [Result.andThen, sliced]

theorem cut_lh (W : World) (g l c a b : Nat) (hab : a < b) (hb : b ≤ c) :
    (Instr.slice 92 (.slice (some ⟨g, 0, none⟩) l c) (some (.int .i64 (a : Int))) (some (.int .i64 (b : Int))) none).run Try.prog W = .ok (.slice (some ⟨g, a * 2, none⟩) (b - a) (c - a)) W := by
  rw [run_slice_lh W 92 _ l c (by kernel_rfl) .i64 .i64 _ _ (by omega) (by omega) (by omega), elemRows, run_size]
  simp only [Result.andThen, sliced, Int.toNat_natCast, Option.map_some]
  rw [if_neg (by omega)]
  simp [Addr.add_lit]

theorem cut_lhm (g l c a b m : Nat) (hab : a ≤ b) (hb : b ≤ m) (hm : m ≤ c) :
    ∃ v, ∀ W, (Instr.slice 92 (.slice (some ⟨g, 0, none⟩) l c) (some (.int .i64 (a : Int))) (some (.int .i64 (b : Int))) (some (.int .i64 (m : Int)))).run Try.prog W = .ok v W := by
  refine ⟨.slice ((some (⟨g, 0, none⟩ : Addr)).map fun x => if m - a = 0 then x else x.add (a * 2)) (b - a) (m - a), fun W => ?_⟩
  rw [run_slice_lhm W 92 _ l c (by kernel_rfl) .i64 .i64 .i64 _ _ _ (by omega) (by omega) (by omega) (by omega), elemRows, run_size]
  simp only [Result.andThen, sliced, Int.toNat_natCast]
  split
  · rename_i h; simp [h]
  · rename_i h; rw [Option.map_some, Option.map_some, if_neg (by omega)]

/-! ### copies -/
theorem copy_run {w : World} {g : Nat} {cur : List Value} (hg : w.heap[g]? = some (.cells cur.toArray 103 (0, 0))) (o dLen dCap sLen sCap m : Nat) (hm : Nat.min sLen dLen = m) (a : Addr) (cs : List Value) (hl : cs.length = m * 2)
    (hsrc : ∀ j v, cs[j]? = some v → w.cell? (a.add j) = some v) (hfit : o + cs.length ≤ cur.length) (h1 : ∀ v ∈ cs, v.oneCell' = true) :
    ∃ w', (Builtin.copy_ #[92, 92] 3 #[.slice (some ⟨g, o, none⟩) dLen dCap, .slice (some a) sLen sCap]).run Try.prog w = .ok (.int .i64 (m : Int)) w' ∧ w'.heap[g]? = some (.cells (lay cur o cs).toArray 103 (0, 0)) ∧ w.grownBy w' (some g) := by
  obtain ⟨i0, hi, hz0, hz1, hz2⟩ := info_parts infoRow
  have hld := run_loadCells_list (P := Try.prog) w a cs hsrc
  have hst := run_storeCells_at Try.prog g o 103 cs 0 cur.toArray w hg (by simpa using hfit) h1
  refine ⟨w.setRow g (lay cur o cs).toArray, ?_, setRow_heap w g _ _ 103 _ hg, ⟨rfl, rfl, rfl, by simp, fun k _ hk => setRow_other w g k _ (fun e => hk (by rw [e]))⟩⟩
  simp only [Nat.add_zero] at hst
  simp [Builtin.copy_, run_underlying Try.underlying92, Builtin.lenOf, Builtin.firstCells, sizeOf, typeInfo, hi, hz1, hm, ← hl, hld, hst, lay]
  rfl

/-! ### append -/
theorem append_run {w : World} {A : Option Addr} {c : Nat} {l : List (Int × Int)} (h : RowsAt w A c l) (b : Nat) (x : Int × Int) (hb : Lies w b 103 #[.int .i64 x.1, .int .i64 x.2]) (hl : l.length ≤ 1000) :
    ∃ A' c' w', (Builtin.append_ #[92, 92] 92 #[.slice A l.length c, .slice (some ⟨b, 0, none⟩) 1 1]).run Try.prog w = .ok (.slice A' (l ++ [x]).length c') w' ∧ RowsAt w' A' c' (l ++ [x]) ∧ w.grownBy w' (Value.slice A 0 0).ownBlock ∧
      ∀ g, (Value.slice A' 0 0).ownBlock = some g → (Value.slice A 0 0).ownBlock = some g ∨ w.heap.size ≤ g := by
  obtain ⟨i0, hinf, hz0, hz1, hz2⟩ := info_parts infoRow
  have hob : ∀ (A : Option Addr) (n c : Nat), (Value.slice A n c).ownBlock = (Value.slice A 0 0).ownBlock := fun A n c => by cases A <;> rfl
  obtain ⟨g, cap, w', hr, ho, hg, hat, _⟩ := run_append_lies (P := Try.prog) w 92 92 0 103 i0 (.agg #[.int .i64 0, .int .i64 0]) 2 16 Try.underlying92 hinf hz0 hz1 hz2 rfl (by decide) _ _ _ h ⟨b, 0, none⟩ 1 1 [.int .i64 x.1, .int .i64 x.2] rfl
    (fun j u hu => by
      rw [Addr.add_lit, Nat.zero_add, hb.cell]
      match j, hu with
      | 0, hu => simpa using hu
      | 1, hu => simpa using hu) (by simp [Value.oneCell']) (by decide) (by unfold maxLen; omega) (by omega) (Nat.zero_le _) _ rfl
  have e : flat (l ++ [x]) = flat l ++ [.int .i64 x.1, .int .i64 x.2] := by rw [flat_append]; rfl
  have el : (l ++ [x]).length = l.length + 1 := by simp
  rw [hob] at hg hat
  refine ⟨some ⟨g, 0, none⟩, cap, w', by rw [el]; exact hr, by unfold RowsAt; rw [el, e]; exact ho, hg, fun g' e' => ?_⟩
  simp only [Value.ownBlock, Option.some.injEq] at e'
  subst e'
  rcases hat with h | h
  · exact .inl h
  · exact .inr (Nat.le_of_eq h.symm)

/-! ### the builtins as steps of the walk, their runs known -/
section
variable {P : Program} {w w' : World} {ops : Array Oper} {rest : List Oper} {o : Oper} {a : Act} {Q : Exit → Act → World → Prop} {v u v' : Value}

theorem wpList_append_eq (hg : o.guard = none) (s x : Operand) (t tn : TypeId)
    (hop : o.op = Op.call { callee := Callee.builtin Builtin.append, args := #[s, x], argTypes := #[t, tn] }) (hty : o.type = t) (hs : a.eval s = v) (hx : a.eval x = u)
    (hrun : (Builtin.append_ #[t, tn] t #[v, u]).run P w = .ok v' w') (h : wpList P ops Q rest (a.put o.dst v') w') : wpList P ops Q (o :: rest) a w := by
  refine wpList_plain hg fun K hK' => ?_
  unfold Oper.wp
  simp [execOp, hop, hty, resolve, invoke, builtin, hs, hx, hrun, Result.andThen]
  exact hK' _ _ h

theorem wpList_copy_eq (hg : o.guard = none) (s x : Operand) (t tn ty : TypeId)
    (hop : o.op = Op.call { callee := Callee.builtin Builtin.copy, args := #[s, x], argTypes := #[t, tn] }) (hty : o.type = ty) (hs : a.eval s = v) (hx : a.eval x = u)
    (hrun : (Builtin.copy_ #[t, tn] ty #[v, u]).run P w = .ok v' w') (h : wpList P ops Q rest (a.put o.dst v') w') : wpList P ops Q (o :: rest) a w := by
  refine wpList_plain hg fun K hK' => ?_
  unfold Oper.wp
  simp [execOp, hop, hty, resolve, invoke, builtin, hs, hx, hrun, Result.andThen]
  exact hK' _ _ h

theorem wpList_clear_eq (hg : o.guard = none) (s : Operand) (t ty : TypeId)
    (hop : o.op = Op.call { callee := Callee.builtin Builtin.clear, args := #[s], argTypes := #[t] }) (hty : o.type = ty) (hs : a.eval s = v)
    (hrun : (Builtin.clear_ #[t] ty #[v]).run P w = .ok v' w') (h : wpList P ops Q rest (a.put o.dst v') w') : wpList P ops Q (o :: rest) a w := by
  refine wpList_plain hg fun K hK' => ?_
  unfold Oper.wp
  simp [execOp, hop, hty, resolve, invoke, builtin, hs, hrun, Result.andThen]
  exact hK' _ _ h

theorem step_copy_eq {K : Act → World → Prop} {E : Prop} (hg : o.guard = none) (s x : Operand) (t tn ty : TypeId)
    (hop : o.op = Op.call { callee := Callee.builtin Builtin.copy, args := #[s, x], argTypes := #[t, tn] }) (hty : o.type = ty) (hs : a.eval s = v) (hx : a.eval x = u)
    (hrun : (Builtin.copy_ #[t, tn] ty #[v, u]).run P w = .ok v' w') (h : K (a.put o.dst v') w') : if Region.wanted o (yielded ops a.tmps) = true then Oper.wp P o a w K Q else E := by
  have hw : Region.wanted o (yielded ops a.tmps) = true := by simp [Region.wanted, hg]
  rw [if_pos hw]
  unfold Oper.wp
  simp [execOp, hop, hty, resolve, invoke, builtin, hs, hx, hrun, Result.andThen]
  exact h

theorem step_append_eq {K : Act → World → Prop} {E : Prop} (hg : o.guard = none) (s x : Operand) (t tn : TypeId)
    (hop : o.op = Op.call { callee := Callee.builtin Builtin.append, args := #[s, x], argTypes := #[t, tn] }) (hty : o.type = t) (hs : a.eval s = v) (hx : a.eval x = u)
    (hrun : (Builtin.append_ #[t, tn] t #[v, u]).run P w = .ok v' w') (h : K (a.put o.dst v') w') : if Region.wanted o (yielded ops a.tmps) = true then Oper.wp P o a w K Q else E := by
  have hw : Region.wanted o (yielded ops a.tmps) = true := by simp [Region.wanted, hg]
  rw [if_pos hw]
  unfold Oper.wp
  simp [execOp, hop, hty, resolve, invoke, builtin, hs, hx, hrun, Result.andThen]
  exact h
end

end Go.Proofs.Ytpidjekabnnmcaa.find
