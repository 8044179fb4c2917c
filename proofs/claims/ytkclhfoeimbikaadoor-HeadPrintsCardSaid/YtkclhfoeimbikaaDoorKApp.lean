/-
  Given for the seat's laws: a frame for calls that append to bytes; the contract of appendField. No condition but those of the theorems.
-/
import Derived.Test.YtkclhfoeimbikaaDoorKVal
namespace Go.Proofs.YtkclhfoeimbikaaDoor.hd
open Go.RowKit mem
set_option linter.unusedVariables false

/-- block k holds no bytes -/
def nu8 (W : World) (k : Nat) : Prop := ∀ cur fz, W.heap[k]? ≠ some (.cells cur 5 fz)
theorem nu8_lies {W : World} {g : Nat} {t : TypeId} {cs : Array Value} (h : Lies W g t cs) (ht : t ≠ 5) : nu8 W g := fun cur fz e => by
  have h2 : W.heap[g]? = some (.cells cs t (0, 0)) := h
  rw [h2] at e
  simp at e
  exact ht e.2.1
theorem nu8_row {W : World} {B : Nat} {v : Value} {e : TypeId} {sz k : Nat} {xs : List Value} (h : W.ownsRow B e sz v k xs) (ht : e ≠ 5) {g : Nat} (hg : v.ownBlock = some g) : nu8 W g := by
  rcases h.2 with ⟨rfl, _⟩ | ⟨g', cap, cur, rfl, hb, hh, _⟩
  · simp [Value.ownBlock] at hg
  · have : g' = g := by simpa [Value.ownBlock] using hg
    subst this
    intro cur' fz e'
    rw [hh] at e'
    simp at e'
    exact ht e'.2.1
/-- what lay below B, and every block that holds no bytes, is as it was -/
structure Kn (B : Nat) (W W1 : World) : Prop where
  os : W1.os = W.os
  tape : W1.tape = W.tape
  output : W1.output = W.output
  size : W.heap.size ≤ W1.heap.size
  block : ∀ k, k < W.heap.size → k < B ∨ nu8 W k → W1.heap[k]? = W.heap[k]?
section
variable {B : Nat} {W W1 W2 : World}
theorem Kn.refl (B : Nat) (W : World) : Kn B W W := ⟨rfl, rfl, rfl, Nat.le_refl _, fun _ _ _ => rfl⟩
theorem Kn.trans (h : Kn B W W1) (k : Kn B W1 W2) : Kn B W W2 :=
  ⟨k.os.trans h.os, k.tape.trans h.tape, k.output.trans h.output, Nat.le_trans h.size k.size, fun i hi hs => by
    have e := h.block i hi hs
    rw [k.block i (Nat.lt_of_lt_of_le hi h.size) (hs.imp id fun hn cur fz => by rw [e]; exact hn cur fz), e]⟩
theorem Kn.of_below (h : Below W.heap.size W W1) (B : Nat) : Kn B W W1 := ⟨h.os, h.tape, h.output, h.size, fun k hk _ => h.block k hk⟩
theorem Kn.below (h : Kn B W W1) (hB : B ≤ W.heap.size) : Below B W W1 := ⟨h.os, h.tape, h.output, h.size, fun k hk => h.block k (by omega) (.inl hk)⟩
theorem Kn.lies (h : Kn B W W1) {g : Nat} {t : TypeId} {cs : Array Value} (hl : Lies W g t cs) (ht : t ≠ 5) : Lies W1 g t cs := hl.of_same (h.block g hl.lt (.inr (nu8_lies hl ht)))
theorem Kn.row (h : Kn B W W1) {B' : Nat} {v : Value} {e : TypeId} {sz k : Nat} {xs : List Value} (hr : W.ownsRow B' e sz v k xs) (ht : e ≠ 5) : W1.ownsRow B' e sz v k xs := rown_same hr fun g hg => h.block g (rown_lt hr hg).2 (.inr (nu8_row hr ht hg))
theorem RowG.nu8 {v : Value} {l : Str} (h : RowG W B v l) {g : Nat} (hn : hd.nu8 W g) : v.ownBlock ≠ some g := by
  obtain ⟨g', cap, cur, fz, rfl, hb, hh, _⟩ := h
  intro e
  have : g' = g := by simpa [Value.ownBlock] using e
  subst this
  exact hn _ _ hh
theorem RowG.kn {v : Value} {l : Str} (h : RowG W B v l) (hk : Kp (fun k => v.ownBlock = some k) W W1) : Kn B W W1 :=
  ⟨hk.os, hk.tape, hk.output, hk.size, fun k h1 h2 => hk.block k h1 fun e => by
    rcases h2 with h2 | h2
    · have := (h.lt e).1; omega
    · exact h.nu8 h2 e⟩
end
def AppTo (B : Nat) (W : World) (l : Str) (e : Ending) (W' : World) : Prop := ∃ A c, e = .returned (.slice A l.length c) ∧ RowG W' B (.slice A l.length c) l ∧ Kn B W W'
theorem AppTo.intro {B : Nat} {W W' : World} {l : Str} {A : Option Addr} {n c : Nat} (hn : l.length = n) (hr : RowG W' B (.slice A n c) l) (hk : Kn B W W') : AppTo B W l (.returned (.slice A n c)) W' := by
  subst hn
  exact ⟨A, c, rfl, hr, hk⟩
/-- a text onto the row, a byte onto the row, in this frame -/
theorem appS_kn {B : Nat} {W0 W : World} {A : Option Addr} {n c : Nat} {l : Str} (hr : RowG W B (.slice A n c) l ∧ Kn B W0 W) (hn : l.length = n) (hB : B ≤ W0.heap.size) (m : Str) {k : Nat} (hk : n + m.length = k) (hl : k ≤ 100000) :
    ∃ A' c' W', (Builtin.append_ #[22, 9] 22 #[.slice A n c, .string (S m)]).run Tryd.prog W = .ok (.slice A' k c') W' ∧ RowG W' B (.slice A' k c') (l ++ m) ∧ Kn B W0 W' := by
  subst hk
  obtain ⟨A', c', W', h1, h2, h3⟩ := hr.1.appS hn (Nat.le_trans hB hr.2.size) m (by omega)
  exact ⟨A', c', W', h1, h2, hr.2.trans (hr.1.kn h3)⟩
theorem push_kn {B : Nat} {W0 W : World} {A : Option Addr} {n c : Nat} {l : Str} (hr : RowG W B (.slice A n c) l ∧ Kn B W0 W) (hn : l.length = n) (hB : B ≤ W0.heap.size) (x : UInt8) (hl : n ≤ 100000) :
    ∃ A' c' W', (Builtin.append_ #[22, 22] 22 #[.slice A n c, .slice (some ⟨W.heap.size, 0, none⟩) 1 1]).run Tryd.prog (W.alloc (.cells #[.int .u8 (x.toNat : Int)] 5)) = .ok (.slice A' (n + 1 : Nat) c') W' ∧ RowG W' B (.slice A' (n + 1 : Nat) c') (l ++ [x]) ∧ Kn B W0 W' := by
  obtain ⟨A', c', W', h1, h2, h3⟩ := hr.1.push hn (Nat.le_trans hB hr.2.size) x hl
  exact ⟨A', c', W', h1, h2, hr.2.trans (hr.1.kn h3)⟩
set_option maxHeartbeats 4000000 in
theorem appF_any {B : Nat} {W : World} {A : Option Addr} {n c : Nat} {l : Str} (h : RowG W B (.slice A n c) l) (hn : l.length = n) (hB : B ≤ W.heap.size) (hl : n ≤ 80000) (p : Str × Str) (h1 : p.1.length ≤ 2000) (h2 : p.2.length ≤ 2000) :
    Calls Tryd.prog 29 #[.slice A n c, .agg #[.string (S p.1), .string (S p.2)]] W (AppTo B W (l ++ prF p)) := by
  have hal : Below W.heap.size W (W.alloc (.cells #[.string (S p.1), .string (S p.2)] 49)) := (Below.refl _ _).alloc (Nat.le_refl _) _
  have hB0 := hB
  have hk0 := Kn.of_below hal B
  have HL0 := Lies.new W 49 #[.string (S p.1), .string (S p.2)]
  have h0 := h.below hal
  have hB := Nat.le_trans hB hal.size
  have q0 : (W.alloc (.cells #[.string (S p.1), .string (S p.2)] 49)).cell? ⟨W.heap.size, 0, none⟩ = some (.string (S p.1)) := HL0.cell 0
  obtain ⟨Wb, hWb⟩ : ∃ Wb, Wb = W.alloc (.cells #[.string (S p.1), .string (S p.2)] 49) := ⟨_, rfl⟩
  rw [← hWb] at hk0 HL0 h0 hB q0 hal
  obtain ⟨n1, hn1⟩ : ∃ n1, n + p.1.length = n1 := ⟨_, rfl⟩
  obtain ⟨A1, c1, W1, r1, o1⟩ := appS_kn ⟨h0, Kn.refl B Wb⟩ hn hB p.1 hn1 (by omega)
  have l1 : (l ++ p.1).length = n1 := by rw [List.length_append, hn, hn1]
  obtain ⟨A2, c2, W2, r2, o2⟩ := push_kn o1 l1 hB 58 (by omega)
  have l2 : (l ++ p.1 ++ [58]).length = n1 + 1 := by rw [List.length_append, l1]; rfl
  by_cases hv : p.2 = []
  · obtain ⟨A3, c3, W3, r3, o3⟩ := appS_kn o2 l2 hB [13, 10] (k := n1 + 3) rfl (by omega)
    have r3' : (Builtin.append_ #[22, 9] 22 #[.slice A2 (n1 + 1 : Nat) c2, .string ⟨#[13, 10]⟩]).run Tryd.prog W2 = .ok (.slice A3 (n1 + 3 : Nat) c3) W3 := r3
    have hem : (S p.2).toList.isEmpty = true := by rw [empty_iff, S_list]; exact decide_eq_true hv
    have e : l ++ prF p = l ++ p.1 ++ [58] ++ [13, 10] := by simp [prF, hv]
    have HE : Bx (AppTo B W (l ++ prF p) (.returned (.slice A3 (n1 + 3 : Nat) c3)) W3) := ⟨by rw [e]; exact .intro (by rw [List.length_append, l2]; rfl) o3.1 (hk0.trans o3.2)⟩
    have z1 : W2.cell? ⟨W.heap.size, 1, none⟩ = some (.string (S p.2)) := (o2.2.lies HL0 (by decide)).cell 1
    have R1 := Bx.mk r1; have R2 := Bx.mk r2; have R3 := Bx.mk r3'
    clear hal h0 hk0 HL0 o1 o2 o3 r1 r2 r3 r3' e l1 l2 hn1 hn h hv
    rw [hWb] at R1 q0
    clear hWb hB0
    go_enter Tryd.func29, Tryd.ntmps29
    go_wp2_with (at_builtin; first
      | (refine wpList_append_g rfl _ _ 22 9 rfl rfl rfl rfl R1.out ?_; clear R1)
      | (refine wpList_append_g rfl _ _ 22 22 rfl rfl rfl rfl R2.out ?_; clear R2)
      | (refine wpList_append_g rfl _ _ 22 9 rfl rfl rfl rfl R3.out ?_; clear R3))
    exact bodyPost_ret (v := .slice A3 (n1 + 3 : Nat) c3) (by simp [results, Tryd.results29, go_sem]) rfl HE.out
  · obtain ⟨A3, c3, W3, r3, o3⟩ := push_kn o2 l2 hB 32 (by omega)
    have l3 : (l ++ p.1 ++ [58] ++ [32]).length = n1 + 1 + 1 := by rw [List.length_append, l2]; rfl
    obtain ⟨n4, hn4⟩ : ∃ n4, n1 + 1 + 1 + p.2.length = n4 := ⟨_, rfl⟩
    obtain ⟨A4, c4, W4, r4, o4⟩ := appS_kn o3 l3 hB p.2 hn4 (by omega)
    have l4 : (l ++ p.1 ++ [58] ++ [32] ++ p.2).length = n4 := by rw [List.length_append, l3, hn4]
    obtain ⟨A5, c5, W5, r5, o5⟩ := appS_kn o4 l4 hB [13, 10] (k := n4 + 2) rfl (by omega)
    have r5' : (Builtin.append_ #[22, 9] 22 #[.slice A4 n4 c4, .string ⟨#[13, 10]⟩]).run Tryd.prog W4 = .ok (.slice A5 (n4 + 2 : Nat) c5) W5 := r5
    have hem : (S p.2).toList.isEmpty = false := by rw [empty_iff, S_list]; exact decide_eq_false hv
    have e : l ++ prF p = l ++ p.1 ++ [58] ++ [32] ++ p.2 ++ [13, 10] := by simp [prF, hv]
    have HE : Bx (AppTo B W (l ++ prF p) (.returned (.slice A5 (n4 + 2 : Nat) c5)) W5) := ⟨by rw [e]; exact .intro (by rw [List.length_append, l4]; rfl) o5.1 (hk0.trans o5.2)⟩
    have z1 : W2.cell? ⟨W.heap.size, 1, none⟩ = some (.string (S p.2)) := (o2.2.lies HL0 (by decide)).cell 1
    have z3 : W3.cell? ⟨W.heap.size, 1, none⟩ = some (.string (S p.2)) := (o3.2.lies HL0 (by decide)).cell 1
    have R1 := Bx.mk r1; have R2 := Bx.mk r2; have R3 := Bx.mk r3; have R4 := Bx.mk r4; have R5 := Bx.mk r5'
    clear hal h0 hk0 HL0 o1 o2 o3 o4 o5 r1 r2 r3 r4 r5 r5' e l1 l2 l3 l4 hn1 hn4 hn h hv
    rw [hWb] at R1 q0
    clear hWb hB0
    go_enter Tryd.func29, Tryd.ntmps29
    go_wp2_with (at_builtin; first
      | (refine wpList_append_g rfl _ _ 22 9 rfl rfl rfl rfl R1.out ?_; clear R1)
      | (refine wpList_append_g rfl _ _ 22 22 rfl rfl rfl rfl R2.out ?_; clear R2)
      | (refine wpList_append_g rfl _ _ 22 22 rfl rfl rfl rfl R3.out ?_; clear R3)
      | (refine wpList_append_g rfl _ _ 22 9 rfl rfl rfl rfl R4.out ?_; clear R4)
      | (refine wpList_append_g rfl _ _ 22 9 rfl rfl rfl rfl R5.out ?_; clear R5))
    exact bodyPost_ret (v := .slice A5 (n4 + 2 : Nat) c5) (by simp [results, Tryd.results29, go_sem]) rfl HE.out
end Go.Proofs.YtkclhfoeimbikaaDoor.hd
