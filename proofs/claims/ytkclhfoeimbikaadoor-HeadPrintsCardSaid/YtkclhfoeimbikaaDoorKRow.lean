/-
  Given for the seat's laws: rows of fields (pairs of texts) as they lie, bytes and fields appended; the contracts of the functions of one byte. No condition but those of the theorems.
-/
import Derived.Test.YtkclhfoeimbikaaDoorKMem
import Derived.Test.YtkclhfoeimbikaaDoorShelf
import Derived.Deep.RegionHeld3
import Derived.BigRegion
import Derived.Lib.ConvBytes
import Derived.Lib.AppendStr
namespace Go.Proofs.YtkclhfoeimbikaaDoor.hd
open Go.RowKit mem
set_option linter.unusedVariables false

section
variable {P : Program} {a : Act} {w w' : World} {ops : Array Oper} {o : Oper} {Q : Exit → Act → World → Prop} {v u v' : Value}
theorem step_append_eq {K : Act → World → Prop} {E : Prop} (hg : o.guard = none) (s x : Operand) (t tn : TypeId)
    (hop : o.op = Op.call { callee := Callee.builtin Builtin.append, args := #[s, x], argTypes := #[t, tn] }) (hty : o.type = t) (hs : a.eval s = v) (hx : a.eval x = u)
    (hrun : (Builtin.append_ #[t, tn] t #[v, u]).run P w = .ok v' w') (h : K (a.put o.dst v') w') : if Region.wanted o (yielded ops a.tmps) = true then Oper.wp P o a w K Q else E := by
  have hw : Region.wanted o (yielded ops a.tmps) = true := by simp [Region.wanted, hg]
  rw [if_pos hw]
  unfold Oper.wp
  simp [execOp, hop, hty, resolve, invoke, builtin, hs, hx, hrun, Result.andThen]
  exact h
theorem wpList_append_g {rest : List Oper} (hg : o.guard = none) (s x : Operand) (t tn : TypeId)
    (hop : o.op = Op.call { callee := Callee.builtin Builtin.append, args := #[s, x], argTypes := #[t, tn] }) (hty : o.type = t) (hs : a.eval s = v) (hx : a.eval x = u)
    (hrun : (Builtin.append_ #[t, tn] t #[v, u]).run P w = .ok v' w') (h : wpList P ops Q rest (a.put o.dst v') w') : wpList P ops Q (o :: rest) a w := by
  refine wpList_plain hg fun K hK' => ?_
  unfold Oper.wp
  simp [execOp, hop, hty, resolve, invoke, builtin, hs, hx, hrun, Result.andThen]
  exact hK' _ _ h
end

/-! ### rows of the call's own -/
theorem rown_same {w w' : World} {B : Nat} {v : Value} {e : TypeId} {sz k : Nat} {xs : List Value} (h : w.ownsRow B e sz v k xs) (hk : ∀ g, v.ownBlock = some g → w'.heap[g]? = w.heap[g]?) : w'.ownsRow B e sz v k xs := by
  refine ⟨h.1, ?_⟩
  rcases h.2 with h0 | ⟨g, cap, cur, hv, hb, hh, rest⟩
  · exact .inl h0
  · exact .inr ⟨g, cap, cur, hv, hb, by rw [hk g (by rw [hv]; rfl)]; exact hh, rest⟩
theorem rown_lt {w : World} {B : Nat} {v : Value} {e : TypeId} {sz k : Nat} {xs : List Value} (h : w.ownsRow B e sz v k xs) {g : Nat} (hg : v.ownBlock = some g) : B ≤ g ∧ g < w.heap.size := by
  rcases h.2 with ⟨rfl, _⟩ | ⟨g', cap, cur, rfl, hb, hh, _⟩
  · simp [Value.ownBlock] at hg
  · have : g' = g := by simpa [Value.ownBlock] using hg
    subst this
    exact ⟨hb, (Array.getElem?_eq_some_iff.1 hh).1⟩
theorem rown_apart {w : World} {B B' : Nat} {v v' : Value} {e e' : TypeId} {sz sz' k k' : Nat} {xs xs' : List Value} (h : w.ownsRow B e sz v k xs) (h' : w.ownsRow B' e' sz' v' k' xs') (hne : e ≠ e') {g : Nat} (hg : v.ownBlock = some g) : v'.ownBlock ≠ some g := by
  rcases h.2 with ⟨rfl, _⟩ | ⟨g1, cap, cur, rfl, _, hh, _⟩
  · simp [Value.ownBlock] at hg
  · have e1 : g1 = g := by simpa [Value.ownBlock] using hg
    subst e1
    rcases h'.2 with ⟨rfl, _⟩ | ⟨g2, cap2, cur2, rfl, _, hh2, _⟩
    · simp [Value.ownBlock]
    · intro e2
      have e3 : g2 = g1 := by simpa [Value.ownBlock] using e2
      subst e3
      rw [hh] at hh2
      simp at hh2
      exact hne hh2.2
theorem rown_ne {w : World} {B g : Nat} {e t : TypeId} {cs : Array Value} {v : Value} {sz k : Nat} {xs : List Value} (h : w.ownsRow B e sz v k xs) (hl : Lies w g t cs) (hne : e ≠ t) : v.ownBlock ≠ some g := by
  rcases h.2 with ⟨rfl, _⟩ | ⟨g', cap, cur, rfl, _, hh, _⟩
  · simp [Value.ownBlock]
  · intro e'
    have : g' = g := by simpa [Value.ownBlock] using e'
    subst this
    exact Lies.apart (t := e) (t' := t) (show Lies w g' e cur from hh) hl hne rfl
theorem rown_form {w : World} {B : Nat} {v : Value} {e : TypeId} {sz k : Nat} {xs : List Value} (h : w.ownsRow B e sz v k xs) : ∃ A c, v = .slice A k c := by
  rcases h.2 with ⟨rfl, rfl⟩ | ⟨g', cap, cur, hv, _⟩
  · exact ⟨none, 0, rfl⟩
  · exact ⟨_, _, hv⟩
/-- a frame: every block but those of S is as it was -/
structure Kp (S : Nat → Prop) (W W1 : World) : Prop where
  os : W1.os = W.os
  tape : W1.tape = W.tape
  output : W1.output = W.output
  size : W.heap.size ≤ W1.heap.size
  block : ∀ k, k < W.heap.size → ¬ S k → W1.heap[k]? = W.heap[k]?
theorem Kp.below {S : Nat → Prop} {W W1 : World} {B : Nat} (h : Kp S W W1) (hB : B ≤ W.heap.size) (hS : ∀ k, k < B → ¬ S k) : Below B W W1 := ⟨h.os, h.tape, h.output, h.size, fun k hk => h.block k (by omega) (hS k hk)⟩

def flat2 (fs : Flds) : List Value := fs.flatMap fun p => [.string (S p.1), .string (S p.2)]
theorem flat2_app (a b : Flds) : flat2 (a ++ b) = flat2 a ++ flat2 b := by simp [flat2]
theorem flat2_len (a : Flds) : (flat2 a).length = 2 * a.length := by
  induction a with
  | nil => rfl
  | cons p r ih => simp [flat2] at ih ⊢; omega
theorem flat2_at {fs : Flds} {i : Nat} {p : Str × Str} (h : fs[i]? = some p) : (flat2 fs)[2 * i]? = some (.string (S p.1)) ∧ (flat2 fs)[2 * i + 1]? = some (.string (S p.2)) := by
  induction fs generalizing i with
  | nil => simp at h
  | cons q r ih =>
    cases i with
    | zero => simp at h; subst h; exact ⟨rfl, rfl⟩
    | succ i =>
      have := ih (i := i) (by simpa using h)
      have e : flat2 (q :: r) = .string (S q.1) :: .string (S q.2) :: flat2 r := rfl
      rw [e, show 2 * (i + 1) = 2 * i + 1 + 1 by omega]
      simpa using this
/-- fields of the call's own -/
abbrev RowF (W : World) (B : Nat) (v : Value) (fs : Flds) : Prop := W.ownsRow B 49 2 v fs.length (flat2 fs)
abbrev RowB (W : World) (B : Nat) (v : Value) (l : Str) : Prop := W.ownsRow B 5 1 v l.length (B8 (ints l))
theorem twoInfo : (Tryd.prog.info? 49).map (fun i => (i.zero, i.size, i.bytes)) = some (some (.agg #[.string ⟨#[]⟩, .string ⟨#[]⟩]), 2, 32) := by kernel_rfl
/-- a field more -/
theorem pushF {W : World} {B : Nat} {A : Option Addr} {n c : Nat} {fs : Flds} (h : RowF W B (.slice A n c) fs) (hn : fs.length = n) (hB : B ≤ W.heap.size) (p : Str × Str) (hl : n ≤ 1000) :
    ∃ A' c' W', (Builtin.append_ #[23, 23] 23 #[.slice A n c, .slice (some ⟨W.heap.size, 0, none⟩) 1 1]).run Tryd.prog (W.alloc (.cells #[.string (S p.1), .string (S p.2)] 49)) = .ok (.slice A' (n + 1 : Nat) c') W' ∧
      RowF W' B (.slice A' (n + 1 : Nat) c') (fs ++ [p]) ∧ Kp (fun k => (Value.slice A n c).ownBlock = some k) W W' := by
  subst hn
  obtain ⟨i0, hinf, hz0, hz1, hz2⟩ := info_parts twoInfo
  have h3 := rown_same (w' := W.alloc (.cells #[.string (S p.1), .string (S p.2)] 49)) h (fun g hg => Below.heap_alloc _ _ _ (rown_lt h hg).2)
  obtain ⟨v', W', hr, ho, hg, _⟩ := run_append_own (P := Tryd.prog) (W.alloc (.cells #[.string (S p.1), .string (S p.2)] 49)) B 23 23 49 i0 _ 2 32 Tryd.underlying23 hinf hz0 hz1 hz2 rfl (by decide) _ _ _ h3 ⟨W.heap.size, 0, none⟩ 1 1 [.string (S p.1), .string (S p.2)] rfl (fun j u hu => by
    rw [Addr.add_lit, Nat.zero_add, lit_cell]
    simpa using hu) (by simp [Value.oneCell']) (by unfold maxLen; omega) (by omega) (by simp; omega)
  obtain ⟨A', c', rfl⟩ := rown_form ho
  have e : flat2 (fs ++ [p]) = flat2 fs ++ [.string (S p.1), .string (S p.2)] := by rw [flat2_app]; rfl
  have el : (fs ++ [p]).length = fs.length + 1 := by simp
  refine ⟨A', c', W', hr, by unfold RowF; rw [el, e]; exact ho, ⟨hg.os, hg.tape, hg.output, by have := hg.size; simp at this; omega, fun k hk hs => ?_⟩⟩
  rw [hg.block k (by simp; omega) (fun e => hs e.symm)]
  exact Below.heap_alloc _ _ _ hk
/-- a byte more -/
theorem pushB {W : World} {B : Nat} {A : Option Addr} {n c : Nat} {l : Str} (h : RowB W B (.slice A n c) l) (hn : l.length = n) (hB : B ≤ W.heap.size) (x : UInt8) (hl : n ≤ 100000) :
    ∃ A' c' W', (Builtin.append_ #[22, 22] 22 #[.slice A n c, .slice (some ⟨W.heap.size, 0, none⟩) 1 1]).run Tryd.prog (W.alloc (.cells #[.int .u8 (x.toNat : Int)] 5)) = .ok (.slice A' (n + 1 : Nat) c') W' ∧
      RowB W' B (.slice A' (n + 1 : Nat) c') (l ++ [x]) ∧ Kp (fun k => (Value.slice A n c).ownBlock = some k) W W' := by
  subst hn
  have h3 := rown_same (w' := W.alloc (.cells #[.int .u8 (x.toNat : Int)] 5)) h (fun g hg => Below.heap_alloc _ _ _ (rown_lt h hg).2)
  obtain ⟨A', c', W', hr, ho, hg, _⟩ := append_at h3 (src_lit W [(x.toNat : Int)] (0, 0) (by have := x.toNat_lt; simp; omega) (by simp)) (by simp; omega) (by simp; omega)
  have el : (l ++ [x]).length = l.length + 1 := by simp
  refine ⟨A', c', W', hr, by unfold RowB; rw [el, ints_app]; exact ho, ⟨hg.os, hg.tape, hg.output, by have := hg.size; simp at this; omega, fun k hk hs => ?_⟩⟩
  rw [hg.block k (by simp; omega) (fun e => hs e.symm)]
  exact Below.heap_alloc _ _ _ hk

/-! ### functions of one byte -/
theorem lw_nat (c : UInt8) : (lw c).toNat = if 65 ≤ c.toNat ∧ c.toNat ≤ 90 then c.toNat + 32 else c.toNat := by
  have := byte_all (fun c => (lw c).toNat == if 65 ≤ c.toNat ∧ c.toNat ≤ 90 then c.toNat + 32 else c.toNat) (by decide +kernel) c
  simpa using this
theorem mayLine_any (c : UInt8) (w : World) : Calls Tryd.prog 34 #[.int .u8 (c.toNat : Int)] w fun e w' => e = .returned (.bool (vis c)) ∧ w' = w := by
  have hv : vis c = (decide (32 ≤ c.toNat) && decide (c.toNat ≤ 126)) := rfl
  by_cases h1 : 32 ≤ c.toNat
  · have i1 : (32 : Int) ≤ (c.toNat : Int) := by omega
    by_cases h2 : c.toNat ≤ 126
    · have i2 : (c.toNat : Int) ≤ 126 := by omega
      rw [hv]
      simp only [h1, h2]
      generalize (c.toNat : Int) = z at *
      clear hv h1 h2
      go_enter Tryd.func34, Tryd.ntmps34
      go_wp2_with fail
      go_ret
      exact ⟨rfl, rfl⟩
    · have i2 : ¬ (c.toNat : Int) ≤ 126 := by omega
      rw [hv]
      simp only [h1, h2]
      generalize (c.toNat : Int) = z at *
      clear hv h1 h2
      go_enter Tryd.func34, Tryd.ntmps34
      go_wp2_with fail
      go_ret
      exact ⟨rfl, rfl⟩
  · have i1 : ¬ (32 : Int) ≤ (c.toNat : Int) := by omega
    rw [hv]
    simp only [h1]
    generalize (c.toNat : Int) = z at *
    clear hv h1
    go_enter Tryd.func34, Tryd.ntmps34
    go_wp2_with fail
    go_ret
    exact ⟨rfl, rfl⟩
theorem lower_any (c : UInt8) (w : World) : Calls Tryd.prog 32 #[.int .u8 (c.toNat : Int)] w fun e w' => e = .returned (.int .u8 ((lw c).toNat : Int)) ∧ w' = w := by
  have hl := lw_nat c
  by_cases h1 : 65 ≤ c.toNat
  · have i1 : (65 : Int) ≤ (c.toNat : Int) := by omega
    by_cases h2 : c.toNat ≤ 90
    · have i2 : (c.toNat : Int) ≤ 90 := by omega
      rw [if_pos ⟨h1, h2⟩] at hl
      have hz : (c.toNat : Int) - 65 + 97 = ((lw c).toNat : Int) := by omega
      generalize ((lw c).toNat : Int) = y at *
      generalize (c.toNat : Int) = z at *
      clear hl h1 h2
      go_enter Tryd.func32, Tryd.ntmps32
      go_wp2_with fail
      go_ret
      exact ⟨rfl, rfl⟩
    · have i2 : ¬ (c.toNat : Int) ≤ 90 := by omega
      rw [if_neg (fun h => h2 h.2)] at hl
      rw [hl]
      generalize (c.toNat : Int) = z at *
      clear hl h1 h2
      go_enter Tryd.func32, Tryd.ntmps32
      go_wp2_with fail
      go_ret
      exact ⟨rfl, rfl⟩
  · have i1 : ¬ (65 : Int) ≤ (c.toNat : Int) := by omega
    rw [if_neg (fun h => h1 h.1)] at hl
    rw [hl]
    generalize (c.toNat : Int) = z at *
    clear hl h1
    go_enter Tryd.func32, Tryd.ntmps32
    go_wp2_with fail
    go_ret
    exact ⟨rfl, rfl⟩
theorem sgn_lw (c : UInt8) (h : 97 ≤ (lw c).toNat ∧ (lw c).toNat ≤ 122) : sgn c = true := by
  have := byte_all (fun c => !(decide (97 ≤ (lw c).toNat) && decide ((lw c).toNat ≤ 122)) || sgn c) (by decide +kernel) c
  simpa [h.1, h.2] using this
theorem sgn_dig (c : UInt8) (h : 48 ≤ c.toNat ∧ c.toNat ≤ 57) : sgn c = true := by simp [sgn, h.1, h.2]
theorem sgn_mark (c : UInt8) (h : ¬ (97 ≤ (lw c).toNat ∧ (lw c).toNat ≤ 122)) (h2 : ¬ (48 ≤ c.toNat ∧ c.toNat ≤ 57)) : sgn c = decide (0 ≤ Lib.indexByte marks c) := by
  have := byte_all (fun c => (decide (97 ≤ (lw c).toNat) && decide ((lw c).toNat ≤ 122)) || (decide (48 ≤ c.toNat) && decide (c.toNat ≤ 57)) || (sgn c == decide (0 ≤ Lib.indexByte marks c))) (by decide +kernel) c
  simp only [Bool.or_eq_true, Bool.and_eq_true, decide_eq_true_eq, beq_iff_eq] at this
  rcases this with (h' | h') | h'
  · exact absurd h' h
  · exact absurd h' h2
  · exact h'
theorem index_any (c : UInt8) (w : World) : Calls Tryd.prog 38 #[.string ⟨#[33, 35, 36, 37, 38, 39, 42, 43, 45, 46, 94, 95, 96, 124, 126]⟩, .int .u8 (c.toNat : Int)] w fun e w' => e = .returned (.int .i64 (Lib.indexByte marks c)) ∧ w' = w := by
  have := Tryd.strings_IndexByte ⟨#[33, 35, 36, 37, 38, 39, 42, 43, 45, 46, 94, 95, 96, 124, 126]⟩ (c.toNat : Int) w
  have e : ((c.toNat : Int).toNat.toUInt8) = c := by simp
  rw [e] at this
  exact this
set_option maxHeartbeats 1000000 in
theorem mayName_any (c : UInt8) (w : World) : Calls Tryd.prog 31 #[.int .u8 (c.toNat : Int)] w fun e w' => e = .returned (.bool (sgn c)) ∧ w' = w := by
  have HL := Bx.mk (lower_any c w)
  by_cases h1 : 97 ≤ (lw c).toNat ∧ (lw c).toNat ≤ 122
  · rw [sgn_lw c h1]
    have i1 : (97 : Int) ≤ ((lw c).toNat : Int) := by omega
    have i2 : ((lw c).toNat : Int) ≤ 122 := by omega
    generalize ((lw c).toNat : Int) = y at *
    generalize (c.toNat : Int) = z at *
    clear h1
    go_enter Tryd.func31, Tryd.ntmps31
    go_wp2_with fail
    refine HL.out.mono ?_
    rintro e w2 ⟨rfl, rfl⟩
    go_wp2_with fail
    go_ret
    exact ⟨rfl, rfl⟩
  · by_cases h2 : 48 ≤ c.toNat ∧ c.toNat ≤ 57
    · rw [sgn_dig c h2]
      have j1 : (48 : Int) ≤ (c.toNat : Int) := by omega
      have j2 : (c.toNat : Int) ≤ 57 := by omega
      have hx : (lw c).toNat = c.toNat := by rw [lw_nat]; exact if_neg (by omega)
      have hy : ((lw c).toNat : Int) = (c.toNat : Int) := by omega
      rw [hy] at HL
      have i1 : ¬ (97 : Int) ≤ (c.toNat : Int) := by omega
      generalize (c.toNat : Int) = z at *
      clear h1 h2 hx hy
      go_enter Tryd.func31, Tryd.ntmps31
      go_wp2_with fail
      refine HL.out.mono ?_
      rintro e w2 ⟨rfl, rfl⟩
      go_wp2_with fail
      go_ret
      exact ⟨rfl, rfl⟩
    · have HI := Bx.mk (index_any c w)
      rw [sgn_mark c h1 h2]
      generalize Lib.indexByte marks c = q at *
      generalize ((lw c).toNat : Nat) = y at *
      generalize (c.toNat : Nat) = z at *
      rcases (show ¬ 97 ≤ y ∨ (97 ≤ y ∧ ¬ y ≤ 122) by omega) with a1 | ⟨a1, a2⟩ <;> rcases (show ¬ 48 ≤ z ∨ (48 ≤ z ∧ ¬ z ≤ 57) by omega) with b1 | ⟨b1, b2⟩
      · have i1 : ¬ (97 : Int) ≤ (y : Int) := by omega
        have j1 : ¬ (48 : Int) ≤ (z : Int) := by omega
        clear h1 h2 a1 b1
        go_enter Tryd.func31, Tryd.ntmps31
        go_wp2_with fail
        refine HL.out.mono ?_
        rintro e w2 ⟨rfl, rfl⟩
        go_wp2_with fail
        refine HI.out.mono ?_
        rintro e w2 ⟨rfl, rfl⟩
        go_wp2_with fail
        go_ret
        exact ⟨rfl, rfl⟩
      · have i1 : ¬ (97 : Int) ≤ (y : Int) := by omega
        have j1 : (48 : Int) ≤ (z : Int) := by omega
        have j2 : decide ((z : Int) ≤ 57) = false := decide_eq_false (by omega)
        clear h1 h2 a1 b1 b2
        go_enter Tryd.func31, Tryd.ntmps31
        go_wp2_with fail
        refine HL.out.mono ?_
        rintro e w2 ⟨rfl, rfl⟩
        go_wp2_with fail
        refine HI.out.mono ?_
        rintro e w2 ⟨rfl, rfl⟩
        go_wp2_with fail
        go_ret
        exact ⟨rfl, rfl⟩
      · have i1 : (97 : Int) ≤ (y : Int) := by omega
        have i2 : decide ((y : Int) ≤ 122) = false := decide_eq_false (by omega)
        have j1 : ¬ (48 : Int) ≤ (z : Int) := by omega
        clear h1 h2 a1 a2 b1
        go_enter Tryd.func31, Tryd.ntmps31
        go_wp2_with fail
        refine HL.out.mono ?_
        rintro e w2 ⟨rfl, rfl⟩
        go_wp2_with fail
        refine HI.out.mono ?_
        rintro e w2 ⟨rfl, rfl⟩
        go_wp2_with fail
        go_ret
        exact ⟨rfl, rfl⟩
      · have i1 : (97 : Int) ≤ (y : Int) := by omega
        have i2 : decide ((y : Int) ≤ 122) = false := decide_eq_false (by omega)
        have j1 : (48 : Int) ≤ (z : Int) := by omega
        have j2 : decide ((z : Int) ≤ 57) = false := decide_eq_false (by omega)
        clear h1 h2 a1 a2 b1 b2
        go_enter Tryd.func31, Tryd.ntmps31
        go_wp2_with fail
        refine HL.out.mono ?_
        rintro e w2 ⟨rfl, rfl⟩
        go_wp2_with fail
        refine HI.out.mono ?_
        rintro e w2 ⟨rfl, rfl⟩
        go_wp2_with fail
        go_ret
        exact ⟨rfl, rfl⟩
end Go.Proofs.YtkclhfoeimbikaaDoor.hd
