/-
  Given for the seat's laws: the contracts of the document's round and words. No condition but those of the theorems.
-/
import Derived.Test.YtimlcjdpnhhjdaaPAdd
namespace Go.Proofs.Ytimlcjdpnhhjdaa.sp
open Go.RowKit mem
set_option linter.unusedVariables false

theorem rnd_ref (a b c d : W64) : rnd ⟨a, b, c, d⟩ =
    (let a1 := ad a b; let b1 := xr a1 (rl 13 b); let a2 := rl 32 a1; let c1 := ad c d; let d1 := xr c1 (rl 16 d); let a3 := ad a2 d1; let d2 := xr a3 (rl 21 d1); let c2 := ad c1 b1; let b2 := xr c2 (rl 17 b1); ⟨a3, b2, rl 32 c2, d2⟩) := by
  show (let a1 := ad a b; let b1 := xr (rl 13 b) a1; let a2 := rl 32 a1; let c1 := ad c d; let d1 := xr (rl 16 d) c1; let a3 := ad a2 d1; let d2 := xr (rl 21 d1) a3; let c2 := ad c1 b1; let b2 := xr (rl 17 b1) c2; (⟨a3, b2, rl 32 c2, d2⟩ : St)) = _
  simp only [xr_comm (rl 13 b), xr_comm (rl 16 d)]
  simp only [xr_comm (rl 21 _), xr_comm (rl 17 _)]

abbrev tv (s : St) : Value := .tuple #[.int .u64 (num s.a), .int .u64 (num s.b), .int .u64 (num s.c), .int .u64 (num s.d)]
set_option maxHeartbeats 4000000 in
set_option maxRecDepth 100000 in
theorem round_any (a b c d : W64) (w : World) : Calls Try.prog 31 #[.int .u64 (num a), .int .u64 (num b), .int .u64 (num c), .int .u64 (num d)] w fun e w' => e = .returned (tv (rnd ⟨a, b, c, d⟩)) ∧ w' = w := by
  have r13 : ∀ x W, Calls Try.prog 40 #[.int .u64 (num x), .int .i64 13] W fun e w' => e = .returned (.int .u64 (num (rl 13 x))) ∧ w' = W := fun x W => left_any x 13 (by omega) W
  have r16 : ∀ x W, Calls Try.prog 40 #[.int .u64 (num x), .int .i64 16] W fun e w' => e = .returned (.int .u64 (num (rl 16 x))) ∧ w' = W := fun x W => left_any x 16 (by omega) W
  have r17 : ∀ x W, Calls Try.prog 40 #[.int .u64 (num x), .int .i64 17] W fun e w' => e = .returned (.int .u64 (num (rl 17 x))) ∧ w' = W := fun x W => left_any x 17 (by omega) W
  have r21 : ∀ x W, Calls Try.prog 40 #[.int .u64 (num x), .int .i64 21] W fun e w' => e = .returned (.int .u64 (num (rl 21 x))) ∧ w' = W := fun x W => left_any x 21 (by omega) W
  have r32 : ∀ x W, Calls Try.prog 40 #[.int .u64 (num x), .int .i64 32] W fun e w' => e = .returned (.int .u64 (num (rl 32 x))) ∧ w' = W := fun x W => left_any x 32 (by omega) W
  have R13 := Lib.hid r13; have R16 := Lib.hid r16; have R17 := Lib.hid r17; have R21 := Lib.hid r21; have R32 := Lib.hid r32
  clear r13 r16 r17 r21 r32
  have hwa := wrap_ad
  have hxr := bits_xr
  have HR : Bx _ := ⟨rnd_ref a b c d⟩
  rw [HR.out]
  clear HR
  go_enter Try.func31, Try.ntmps31
  go_wp2_with (first | ((with_reducible refine (R13.out _ _).mono ?_); rintro e w' ⟨rfl, rfl⟩) | ((with_reducible refine (R16.out _ _).mono ?_); rintro e w' ⟨rfl, rfl⟩) | ((with_reducible refine (R17.out _ _).mono ?_); rintro e w' ⟨rfl, rfl⟩) | ((with_reducible refine (R21.out _ _).mono ?_); rintro e w' ⟨rfl, rfl⟩) | ((with_reducible refine (R32.out _ _).mono ?_); rintro e w' ⟨rfl, rfl⟩))
  exact bodyPost_ret (v := .tuple #[.int .u64 (num (ad (rl 32 (ad a b)) (xr (ad c d) (rl 16 d)))), .int .u64 (num (xr (ad (ad c d) (xr (ad a b) (rl 13 b))) (rl 17 (xr (ad a b) (rl 13 b))))), .int .u64 (num (rl 32 (ad (ad c d) (xr (ad a b) (rl 13 b))))), .int .u64 (num (xr (ad (rl 32 (ad a b)) (xr (ad c d) (rl 16 d))) (rl 21 (xr (ad c d) (rl 16 d)))))]) (by simp [results, Try.results31, go_sem]) rfl ⟨rfl, rfl⟩

/-! ### the words -/
def mm (b : Str) (i k : Nat) : Nat := if k = 8 ∧ i = b.length / 8 then lastn b else le ((b.drop (8 * i)).take k)
theorem wrap_nat (a : Nat) : IntKind.u64.wrap (a : Int) = num (mk a) := by
  unfold num mk
  rw [IntKind.wrap_u64, BitVec.toNat_ofNat]
  omega
theorem mk_mod (a : Nat) : (mk a).toNat = a % 18446744073709551616 := by
  unfold mk
  rw [BitVec.toNat_ofNat]
theorem wrap_mul (a n : Nat) : IntKind.u64.wrap (num (mk a) * (n : Int)) = num (mk (a * n)) := by
  have : num (mk a) * (n : Int) = ((a % 18446744073709551616 * n : Nat) : Int) := by
    unfold num
    rw [mk_mod]
    simp
  rw [this, wrap_nat]
  unfold num
  rw [mk_mod, mk_mod, Nat.mod_mul_mod]
theorem wrap_plus (a n : Nat) : IntKind.u64.wrap (num (mk a) + num (mk n)) = num (mk (a + n)) := by
  have : num (mk a) + num (mk n) = ((a % 18446744073709551616 + n % 18446744073709551616 : Nat) : Int) := by
    unfold num
    rw [mk_mod, mk_mod]
    simp
  rw [this, wrap_nat]
  unfold num
  rw [mk_mod, mk_mod, ← Nat.add_mod]
theorem wrap_256 (a : Nat) : IntKind.u64.wrap (256 * num (mk a)) = num (mk (256 * a)) := by
  have := wrap_mul a 256
  rw [Int.mul_comm, Nat.mul_comm]
  exact this
theorem mm_zero (b : Str) (i : Nat) : mm b i 0 = 0 := by simp [mm, le]
theorem take_step {b : Str} {i k : Nat} {c : UInt8} (h : b[8 * i + k]? = some c) : (b.drop (8 * i)).take (k + 1) = (b.drop (8 * i)).take k ++ [c] := by
  rw [List.take_add_one, List.getElem?_drop, h]
  rfl
theorem mm_byte {b : Str} {i k : Nat} {c : UInt8} (h : b[8 * i + k]? = some c) (hk : k < 8) (hn : ¬ (k = 7 ∧ i = b.length / 8)) : mm b i (k + 1) = mm b i k + 256 ^ k * c.toNat := by
  have hlt := (List.getElem?_eq_some_iff.1 h).1
  unfold mm
  rw [if_neg (by omega), if_neg (by omega), take_step h, le_snoc]
  congr 3
  rw [List.length_take, List.length_drop]
  omega
theorem mm_none {b : Str} {i k : Nat} (h : b.length ≤ 8 * i + k) (hk : k < 7) : mm b i (k + 1) = mm b i k := by
  unfold mm
  rw [if_neg (by omega), if_neg (by omega), List.take_of_length_le (by rw [List.length_drop]; omega), List.take_of_length_le (by rw [List.length_drop]; omega)]
theorem mm_last {b : Str} {i : Nat} (h : i = b.length / 8) : mm b i 8 = mm b i 7 + 256 ^ 7 * (b.length % 256) := by
  unfold mm
  rw [if_pos ⟨rfl, h⟩, if_neg (by omega), h]
  unfold lastn part
  rw [List.take_of_length_le (by rw [List.length_drop]; omega)]
theorem ws_len (b : Str) : (ws b).length = b.length / 8 + 1 := by simp [ws, full]
theorem ws_get {b : Str} {i : Nat} (h : i ≤ b.length / 8) : (ws b)[i]? = some (mk (mm b i 8)) := by
  unfold ws
  rcases Nat.lt_or_ge i (b.length / 8) with hlt | hge
  · rw [List.getElem?_append_left (by simp [full]; exact hlt)]
    unfold full mm
    rw [if_neg (by omega)]
    simp [hlt]
  · have e : i = b.length / 8 := by omega
    rw [List.getElem?_append_right (by simp [full]; omega)]
    unfold mm
    rw [if_pos ⟨rfl, e⟩]
    simp [full, e]
theorem ws_take {b : Str} {i : Nat} (h : i ≤ b.length / 8) : (ws b).take (i + 1) = (ws b).take i ++ [mk (mm b i 8)] := by
  rw [List.take_add_one, ws_get h]
  rfl

/-- words as they lie -/
def W8 (l : List W64) : List Value := l.map fun x => .int .u64 (num x)
theorem W8_one (l : List W64) : ∀ v ∈ W8 l, v.oneCell' = true := by
  intro v hv
  obtain ⟨z, _, rfl⟩ := List.mem_map.1 hv
  rfl
structure MadeW (w wr : World) (v : Value) (l : List W64) : Prop where
  own : wr.ownsRow w.heap.size 25 1 v l.length (W8 l)
  below : Below w.heap.size w wr
/-- one word more -/
theorem MadeW.push {w w1 : World} {v : Value} {l : List W64} (h : MadeW w w1 v l) (hl : l.length ≤ 100000) (x : W64) :
    ∃ A c w2, (Builtin.append_ #[58, 58] 58 #[v, .slice (some ⟨w1.heap.size, 0, none⟩) 1 1]).run Try.prog (w1.alloc (.cells #[.int .u64 (num x)] 25)) = .ok (.slice A (l.length + 1) c) w2 ∧
      MadeW w w2 (.slice A (l.length + 1 : Nat) c) (l ++ [x]) := by
  have h3 := own_same (w' := w1.alloc (.cells #[.int .u64 (num x)] 25)) h.own (fun g hg => Below.heap_alloc _ _ _ (own_lt h.own hg).2)
  obtain ⟨i0, hinf, hz0, hz1, hz2⟩ := info_parts (show (Try.prog.info? 25).map (fun i => (i.zero, i.size, i.bytes)) = some (some (.int .u64 0), 1, 8) by kernel_rfl)
  obtain ⟨v', w2, hr, ho, hg, _, hat⟩ := run_append_own_at (P := Try.prog) (w1.alloc (.cells #[.int .u64 (num x)] 25)) w.heap.size 58 58 25 i0 (.int .u64 0) 1 8 Try.underlying58 hinf hz0 hz1 hz2 rfl (by decide) v l.length (W8 l) h3 ⟨w1.heap.size, 0, none⟩ 1 1 (W8 [x]) rfl
    (fun j u hu => by
      match j, hu with
      | 0, hu =>
        have := Option.some.inj hu
        subst this
        exact lit_cell w1 _ _ _ 0
      | j + 1, hu => simp [W8] at hu) (W8_one _) (by unfold maxLen; omega) (by omega) (by simp; have := h.below.size; omega)
  obtain ⟨A', c', rfl⟩ := own_form ho
  refine ⟨A', c', w2, hr, ?_, (h.below.alloc h.below.size _).grown hg (h.below.alloc h.below.size _).size (fun g e => (own_lt h3 e).1)⟩
  have e1 : (l ++ [x]).length = l.length + 1 := by simp
  have e2 : W8 (l ++ [x]) = W8 l ++ W8 [x] := by simp [W8]
  rw [e1, e2]
  exact ho
theorem wpList_app {P : Program} {w w' : World} {T : TypeId} {ops : Array Oper} {rest : List Oper} {o : Oper} {a : Act} {Q : Exit → Act → World → Prop} {v u v' : Value} (hg : o.guard = none) (s x : Operand)
    (hop : o.op = Op.call { callee := Callee.builtin Builtin.append, args := #[s, x], argTypes := #[T, T] }) (hty : o.type = T) (hs : a.eval s = v) (hx : a.eval x = u)
    (hrun : (Builtin.append_ #[T, T] T #[v, u]).run P w = .ok v' w') (h : wpList P ops Q rest (a.put o.dst v') w') : wpList P ops Q (o :: rest) a w := by
  refine wpList_plain hg fun K hK' => ?_
  unfold Oper.wp
  simp [execOp, hop, hty, resolve, invoke, builtin, hs, hx, hrun, Result.andThen]
  exact hK' _ _ h
end Go.Proofs.Ytimlcjdpnhhjdaa.sp
