/-
  Given for the seat's laws: a frame for calls that append to bytes; the contract of appendField. No condition but those of the theorems.
-/
import Derived.Test.YtghdaengkgiekaaGreatDoorYKConv
import Derived.Test.YtghdaengkgiekaaGreatDoorYKOn
namespace Go.Proofs.YtghdaengkgiekaaGreatDoor.hd
open Go.RowKit mem
set_option linter.unusedVariables false

/-- block k holds no bytes -/
def nu8 (W : World) (k : Nat) : Prop := ∀ cur fz, W.heap[k]? ≠ some (.cells cur 5 fz)
theorem nu8_lies {W : World} {g : Nat} {t : TypeId} {cs : Array Value} (h : Lies W g t cs) (ht : t ≠ 5) : nu8 W g := fun cur fz e => by
  have h2 : W.heap[g]? = some (.cells cs t (0, 0)) := h
  rw [h2] at e
  simp at e
  exact ht e.2.1
theorem nu8_row {W : World} {B : Nat} {v : Value} {e : TypeId} {sz k : Nat} {xs : List Value} (h : W.ownsRow B e sz v k xs) (ht : e ≠ 5) {g : Nat} (hg : v.ownBlock = some g) : nu8 W g := by
  rcases h.2 with ⟨rfl, _⟩ | ⟨g', cap, cur, rfl, hb, hh, _⟩
  · simp [Value.ownBlock] at hg
  · have : g' = g := by simpa [Value.ownBlock] using hg
    subst this
    intro cur' fz e'
    rw [hh] at e'
    simp at e'
    exact ht e'.2.1
/-- what lay below B, and every block that holds no bytes, is as it was -/
structure Kn (B : Nat) (W W1 : World) : Prop where
  os : W1.os = W.os
  tape : W1.tape = W.tape
  output : W1.output = W.output
  size : W.heap.size ≤ W1.heap.size
  block : ∀ k, k < W.heap.size → k < B ∨ nu8 W k → W1.heap[k]? = W.heap[k]?
section
variable {B : Nat} {W W1 W2 : World}
theorem Kn.refl (B : Nat) (W : World) : Kn B W W := ⟨rfl, rfl, rfl, Nat.le_refl _, fun _ _ _ => rfl⟩
theorem Kn.trans (h : Kn B W W1) (k : Kn B W1 W2) : Kn B W W2 :=
  ⟨k.os.trans h.os, k.tape.trans h.tape, k.output.trans h.output, Nat.le_trans h.size k.size, fun i hi hs => by
    have e := h.block i hi hs
    rw [k.block i (Nat.lt_of_lt_of_le hi h.size) (hs.imp id fun hn cur fz => by rw [e]; exact hn cur fz), e]⟩
theorem Kn.of_below (h : Below W.heap.size W W1) (B : Nat) : Kn B W W1 := ⟨h.os, h.tape, h.output, h.size, fun k hk _ => h.block k hk⟩
theorem Kn.below (h : Kn B W W1) (hB : B ≤ W.heap.size) : Below B W W1 := ⟨h.os, h.tape, h.output, h.size, fun k hk => h.block k (by omega) (.inl hk)⟩
theorem Kn.lies (h : Kn B W W1) {g : Nat} {t : TypeId} {cs : Array Value} (hl : Lies W g t cs) (ht : t ≠ 5) : Lies W1 g t cs := hl.of_same (h.block g hl.lt (.inr (nu8_lies hl ht)))
theorem Kn.row (h : Kn B W W1) {B' : Nat} {v : Value} {e : TypeId} {sz k : Nat} {xs : List Value} (hr : W.ownsRow B' e sz v k xs) (ht : e ≠ 5) : W1.ownsRow B' e sz v k xs := rown_same hr fun g hg => h.block g (rown_lt hr hg).2 (.inr (nu8_row hr ht hg))
theorem RowG.nu8 {v : Value} {l : Str} (h : RowG W B v l) {g : Nat} (hn : hd.nu8 W g) : v.ownBlock ≠ some g := by
  obtain ⟨g', cap, cur, fz, rfl, hb, hh, _⟩ := h
  intro e
  have : g' = g := by simpa [Value.ownBlock] using e
  subst this
  exact hn _ _ hh
theorem RowG.kn {v : Value} {l : Str} (h : RowG W B v l) (hk : Kp (fun k => v.ownBlock = some k) W W1) : Kn B W W1 :=
  ⟨hk.os, hk.tape, hk.output, hk.size, fun k h1 h2 => hk.block k h1 fun e => by
    rcases h2 with h2 | h2
    · have := (h.lt e).1; omega
    · exact h.nu8 h2 e⟩
end
def AppTo (B : Nat) (W : World) (l : Str) (e : Ending) (W' : World) : Prop := ∃ A c, e = .returned (.slice A l.length c) ∧ RowG W' B (.slice A l.length c) l ∧ Kn B W W'
theorem AppTo.intro {B : Nat} {W W' : World} {l : Str} {A : Option Addr} {n c : Nat} (hn : l.length = n) (hr : RowG W' B (.slice A n c) l) (hk : Kn B W W') : AppTo B W l (.returned (.slice A n c)) W' := by
  subst hn
  exact ⟨A, c, rfl, hr, hk⟩
/-- a text onto the row, a byte onto the row, in this frame -/
theorem appS_kn {B : Nat} {W0 W : World} {A : Option Addr} {n c : Nat} {l : Str} (hr : RowG W B (.slice A n c) l ∧ Kn B W0 W) (hn : l.length = n) (hB : B ≤ W0.heap.size) (m : Str) {k : Nat} (hk : n + m.length = k) (hl : k ≤ 100000) :
    ∃ A' c' W', (Builtin.append_ #[29, 9] 29 #[.slice A n c, .string (S m)]).run Tryz.prog W = .ok (.slice A' k c') W' ∧ RowG W' B (.slice A' k c') (l ++ m) ∧ Kn B W0 W' := by
  subst hk
  obtain ⟨A', c', W', h1, h2, h3⟩ := hr.1.appS hn (Nat.le_trans hB hr.2.size) m (by omega)
  exact ⟨A', c', W', h1, h2, hr.2.trans (hr.1.kn h3)⟩
theorem push_kn {B : Nat} {W0 W : World} {A : Option Addr} {n c : Nat} {l : Str} (hr : RowG W B (.slice A n c) l ∧ Kn B W0 W) (hn : l.length = n) (hB : B ≤ W0.heap.size) (x : UInt8) (hl : n ≤ 100000) :
    ∃ A' c' W', (Builtin.append_ #[29, 29] 29 #[.slice A n c, .slice (some ⟨W.heap.size, 0, none⟩) 1 1]).run Tryz.prog (W.alloc (.cells #[.int .u8 (x.toNat : Int)] 5)) = .ok (.slice A' (n + 1 : Nat) c') W' ∧ RowG W' B (.slice A' (n + 1 : Nat) c') (l ++ [x]) ∧ Kn B W0 W' := by
  obtain ⟨A', c', W', h1, h2, h3⟩ := hr.1.push hn (Nat.le_trans hB hr.2.size) x hl
  exact ⟨A', c', W', h1, h2, hr.2.trans (hr.1.kn h3)⟩
set_option maxHeartbeats 4000000 in
theorem appF_any {B : Nat} {W : World} {A : Option Addr} {n c : Nat} {l : Str} (h : RowG W B (.slice A n c) l) (hn : l.length = n) (hB : B ≤ W.heap.size) (hl : n ≤ 80000) (p : Str × Str) (h1 : p.1.length ≤ 2000) (h2 : p.2.length ≤ 2000) :
    Calls Tryz.prog 41 #[.slice A n c, .agg #[.string (S p.1), .string (S p.2)]] W (AppTo B W (l ++ prF p)) := by
  have hal : Below W.heap.size W (W.alloc (.cells #[.string (S p.1), .string (S p.2)] 54)) := (Below.refl _ _).alloc (Nat.le_refl _) _
  have hB0 := hB
  have hk0 := Kn.of_below hal B
  have HL0 := Lies.new W 54 #[.string (S p.1), .string (S p.2)]
  have h0 := h.below hal
  have hB := Nat.le_trans hB hal.size
  have q0 : (W.alloc (.cells #[.string (S p.1), .string (S p.2)] 54)).cell? ⟨W.heap.size, 0, none⟩ = some (.string (S p.1)) := HL0.cell 0
  obtain ⟨Wb, hWb⟩ : ∃ Wb, Wb = W.alloc (.cells #[.string (S p.1), .string (S p.2)] 54) := ⟨_, rfl⟩
  rw [← hWb] at hk0 HL0 h0 hB q0 hal
  obtain ⟨n1, hn1⟩ : ∃ n1, n + p.1.length = n1 := ⟨_, rfl⟩
  obtain ⟨A1, c1, W1, r1, o1⟩ := appS_kn ⟨h0, Kn.refl B Wb⟩ hn hB p.1 hn1 (by omega)
  have l1 : (l ++ p.1).length = n1 := by rw [List.length_append, hn, hn1]
  obtain ⟨A2, c2, W2, r2, o2⟩ := push_kn o1 l1 hB 58 (by omega)
  have l2 : (l ++ p.1 ++ [58]).length = n1 + 1 := by rw [List.length_append, l1]; rfl
  by_cases hv : p.2 = []
  · obtain ⟨A3, c3, W3, r3, o3⟩ := appS_kn o2 l2 hB [13, 10] (k := n1 + 3) rfl (by omega)
    have r3' : (Builtin.append_ #[29, 9] 29 #[.slice A2 (n1 + 1 : Nat) c2, .string ⟨#[13, 10]⟩]).run Tryz.prog W2 = .ok (.slice A3 (n1 + 3 : Nat) c3) W3 := r3
    have hem : (S p.2).toList.isEmpty = true := by rw [empty_iff, S_list]; exact decide_eq_true hv
    have e : l ++ prF p = l ++ p.1 ++ [58] ++ [13, 10] := by simp [prF, hv]
    have HE : Bx (AppTo B W (l ++ prF p) (.returned (.slice A3 (n1 + 3 : Nat) c3)) W3) := ⟨by rw [e]; exact .intro (by rw [List.length_append, l2]; rfl) o3.1 (hk0.trans o3.2)⟩
    have z1 : W2.cell? ⟨W.heap.size, 1, none⟩ = some (.string (S p.2)) := (o2.2.lies HL0 (by decide)).cell 1
    have R1 := Bx.mk r1; have R2 := Bx.mk r2; have R3 := Bx.mk r3'
    clear hal h0 hk0 HL0 o1 o2 o3 r1 r2 r3 r3' e l1 l2 hn1 hn h hv
    rw [hWb] at R1 q0
    clear hWb hB0
    go_enter Tryz.func41, Tryz.ntmps41
    go_wp2_with (at_builtin; first
      | (refine wpList_append_g rfl _ _ 29 9 rfl rfl rfl rfl R1.out ?_; clear R1)
      | (refine wpList_append_g rfl _ _ 29 29 rfl rfl rfl rfl R2.out ?_; clear R2)
      | (refine wpList_append_g rfl _ _ 29 9 rfl rfl rfl rfl R3.out ?_; clear R3))
    exact bodyPost_ret (v := .slice A3 (n1 + 3 : Nat) c3) (by simp [results, Tryz.results41, go_sem]) rfl HE.out
  · obtain ⟨A3, c3, W3, r3, o3⟩ := push_kn o2 l2 hB 32 (by omega)
    have l3 : (l ++ p.1 ++ [58] ++ [32]).length = n1 + 1 + 1 := by rw [List.length_append, l2]; rfl
    obtain ⟨n4, hn4⟩ : ∃ n4, n1 + 1 + 1 + p.2.length = n4 := ⟨_, rfl⟩
    obtain ⟨A4, c4, W4, r4, o4⟩ := appS_kn o3 l3 hB p.2 hn4 (by omega)
    have l4 : (l ++ p.1 ++ [58] ++ [32] ++ p.2).length = n4 := by rw [List.length_append, l3, hn4]
    obtain ⟨A5, c5, W5, r5, o5⟩ := appS_kn o4 l4 hB [13, 10] (k := n4 + 2) rfl (by omega)
    have r5' : (Builtin.append_ #[29, 9] 29 #[.slice A4 n4 c4, .string ⟨#[13, 10]⟩]).run Tryz.prog W4 = .ok (.slice A5 (n4 + 2 : Nat) c5) W5 := r5
    have hem : (S p.2).toList.isEmpty = false := by rw [empty_iff, S_list]; exact decide_eq_false hv
    have e : l ++ prF p = l ++ p.1 ++ [58] ++ [32] ++ p.2 ++ [13, 10] := by simp [prF, hv]
    have HE : Bx (AppTo B W (l ++ prF p) (.returned (.slice A5 (n4 + 2 : Nat) c5)) W5) := ⟨by rw [e]; exact .intro (by rw [List.length_append, l4]; rfl) o5.1 (hk0.trans o5.2)⟩
    have z1 : W2.cell? ⟨W.heap.size, 1, none⟩ = some (.string (S p.2)) := (o2.2.lies HL0 (by decide)).cell 1
    have z3 : W3.cell? ⟨W.heap.size, 1, none⟩ = some (.string (S p.2)) := (o3.2.lies HL0 (by decide)).cell 1
    have R1 := Bx.mk r1; have R2 := Bx.mk r2; have R3 := Bx.mk r3; have R4 := Bx.mk r4; have R5 := Bx.mk r5'
    clear hal h0 hk0 HL0 o1 o2 o3 o4 o5 r1 r2 r3 r4 r5 r5' e l1 l2 l3 l4 hn1 hn4 hn h hv
    rw [hWb] at R1 q0
    clear hWb hB0
    go_enter Tryz.func41, Tryz.ntmps41
    go_wp2_with (at_builtin; first
      | (refine wpList_append_g rfl _ _ 29 9 rfl rfl rfl rfl R1.out ?_; clear R1)
      | (refine wpList_append_g rfl _ _ 29 29 rfl rfl rfl rfl R2.out ?_; clear R2)
      | (refine wpList_append_g rfl _ _ 29 29 rfl rfl rfl rfl R3.out ?_; clear R3)
      | (refine wpList_append_g rfl _ _ 29 9 rfl rfl rfl rfl R4.out ?_; clear R4)
      | (refine wpList_append_g rfl _ _ 29 9 rfl rfl rfl rfl R5.out ?_; clear R5))
    exact bodyPost_ret (v := .slice A5 (n4 + 2 : Nat) c5) (by simp [results, Tryz.results41, go_sem]) rfl HE.out
end Go.Proofs.YtghdaengkgiekaaGreatDoor.hd

/-
  Given for the seat's laws: the contract of the program's Print. No condition but those of the theorem.
-/
namespace Go.Proofs.YtghdaengkgiekaaGreatDoor.hd
open Go.RowKit mem
set_option linter.unusedVariables false

/-- a head of which all parts are of some length at most -/
structure Small (l : Str) (fs : Flds) : Prop where
  line : l.length ≤ 2000
  most : fs.length ≤ 16
  flds : ∀ p ∈ fs, p.1.length ≤ 2000 ∧ p.2.length ≤ 2000
theorem flat_len {fs : Flds} (h : ∀ p ∈ fs, p.1.length ≤ 2000 ∧ p.2.length ≤ 2000) : (fs.flatMap prF).length ≤ 4004 * fs.length := by
  induction fs with
  | nil => simp
  | cons p r ih =>
    have := ih fun q hq => h q (by simp [hq])
    have h1 := prF_len p
    have h2 := h p (by simp)
    rw [List.flatMap_cons, List.length_append, List.length_cons]
    omega
/-- what stands behind i fields -/
def upTo (l : Str) (fs : Flds) (i : Nat) : Str := l ++ [13, 10] ++ (fs.take i).flatMap prF
theorem upTo_len {l : Str} {fs : Flds} (h : Small l fs) (i : Nat) : (upTo l fs i).length ≤ 66100 := by
  have h1 := flat_len (fs := fs.take i) fun p hp => h.flds p (List.mem_of_mem_take hp)
  have h2 := h.most
  have h3 := h.line
  unfold upTo
  simp only [List.length_append, List.length_cons, List.length_nil, List.length_take] at h1 ⊢
  have : min i fs.length ≤ 16 := by omega
  have : 4004 * min i fs.length ≤ 4004 * 16 := Nat.mul_le_mul_left _ this
  omega
theorem upTo_add {l : Str} {fs : Flds} {i : Nat} {p : Str × Str} (h : fs[i]? = some p) : upTo l fs (i + 1) = upTo l fs i ++ prF p := by
  unfold upTo
  rw [List.take_add_one, h, List.flatMap_append, List.append_assoc]
  simp
theorem upTo_all {l : Str} {fs : Flds} {n : Nat} (h : fs.length = n) : upTo l fs n ++ [13, 10] = pr l fs := by
  unfold upTo pr
  rw [List.take_of_length_le (by omega)]
theorem lowF_add {fs : Flds} {i : Nat} {p : Str × Str} (h : fs[i]? = some p) : lowF (fs.take (i + 1)) = lowF (fs.take i) ++ [(low p.1, p.2)] := by
  unfold lowF
  rw [List.take_add_one, h, List.map_append]
  rfl
theorem lowF_len (fs : Flds) : (lowF fs).length = fs.length := by simp [lowF]

/-- how the loop stands -/
structure PrL (w : World) (l : Str) (fs : Flds) (A : Option Addr) (n c gm : Nat) (wr : World) (i m : Nat) (Ab : Option Addr) (cb : Nat) (A2 : Option Addr) (c2 : Nat) : Prop where
  row : RowG wr (w.heap.size + 1) (.slice Ab m cb) (upTo l fs i)
  len : (upTo l fs i).length = m
  mt : Lies wr gm 47 #[.string (S l), .slice A2 i c2]
  mf : RowF wr (w.heap.size + 1) (.slice A2 i c2) (lowF (fs.take i))
  box : Lies wr w.heap.size 47 #[.string (S l), .slice A n c]
  be : Below w.heap.size w wr
  gm : w.heap.size + 1 ≤ gm
/-- behind appendField -/
theorem prl_app {w : World} {l : Str} {fs : Flds} {A : Option Addr} {n c gm : Nat} {wr : World} {i m : Nat} {Ab : Option Addr} {cb : Nat} {A2 : Option Addr} {c2 : Nat} (H : PrL w l fs A n c gm wr i m Ab cb A2 c2) {p : Str × Str} {W2 : World}
    (hk : Kn (w.heap.size + 1) (wr.alloc (.cells #[.string (S p.1), .string (S p.2)] 54)) W2) :
    Lies W2 gm 47 #[.string (S l), .slice A2 i c2] ∧ RowF W2 (w.heap.size + 1) (.slice A2 i c2) (lowF (fs.take i)) ∧ Lies W2 w.heap.size 47 #[.string (S l), .slice A n c] ∧ Lies W2 wr.heap.size 54 #[.string (S p.1), .string (S p.2)] ∧ Below w.heap.size w W2 := by
  have hal : Below wr.heap.size wr (wr.alloc (.cells #[.string (S p.1), .string (S p.2)] 54)) := (Below.refl _ _).alloc (Nat.le_refl _) _
  have hB : w.heap.size + 1 ≤ (wr.alloc (.cells #[.string (S p.1), .string (S p.2)] 54)).heap.size := by have := H.box.lt; simp; omega
  refine ⟨hk.lies (H.mt.alloc _) (by decide), hk.row (rown_same H.mf fun g hg => hal.block g (rown_lt H.mf hg).2) (by decide), hk.lies (H.box.alloc _) (by decide), hk.lies (Lies.new wr 54 _) (by decide), ?_⟩
  exact (H.be.trans (hal.mono H.be.size)).trans ((hk.below hB).mono (by omega))
/-- behind the store -/
theorem prl_next {w : World} {l : Str} {fs : Flds} {A : Option Addr} {n c gm : Nat} {i m' : Nat} {Ab' : Option Addr} {cb' : Nat} {A2 : Option Addr} {c2 : Nat} {p : Str × Str} {W2 w3 : World} (hp : fs[i]? = some p) (hi : i ≤ 30)
    (hm : Lies W2 gm 47 #[.string (S l), .slice A2 i c2]) (hf : RowF W2 (w.heap.size + 1) (.slice A2 i c2) (lowF (fs.take i))) (hx : Lies W2 w.heap.size 47 #[.string (S l), .slice A n c]) (hb : Below w.heap.size w W2)
    (hr : RowG W2 (w.heap.size + 1) (.slice Ab' m' cb') (upTo l fs (i + 1))) (hl : (upTo l fs (i + 1)).length = m') (hg : w.heap.size + 1 ≤ gm) {gl : Nat} (hlo : Lies W2 gl 54 #[.string (S p.1), .string (S p.2)]) (hgl : (Value.slice A2 i c2).ownBlock ≠ some gl) (h3 : Below W2.heap.size W2 w3) :
    ∃ A3 c3 W4, (Builtin.append_ #[45, 45] 45 #[.slice A2 i c2, .slice (some ⟨w3.heap.size, 0, none⟩) 1 1]).run Tryz.prog (w3.alloc (.cells #[.string (S (low p.1)), .string (S p.2)] 54)) = .ok (.slice A3 (i + 1 : Nat) c3) W4 ∧
      W4.cell? ⟨gm, 1, none⟩ = some (.slice A2 i c2) ∧ W4.frozen? ⟨gm, 1, none⟩ = false ∧ Lies W4 gl 54 #[.string (S p.1), .string (S p.2)] ∧ gl ≠ gm ∧ PrL w l fs A n c gm (W4.setCell ⟨gm, 1, none⟩ (.slice A3 (i + 1 : Nat) c3)) (i + 1) m' Ab' cb' A3 c3 := by
  have hil : (lowF (fs.take i)).length = i := by
    have := (List.getElem?_eq_some_iff.1 hp).1
    rw [lowF_len, List.length_take]; omega
  have hm3 := hm.below h3 hm.lt
  have hf3 := rown_same hf fun g hg => h3.block g (rown_lt hf hg).2
  have hx3 := hx.below h3 hx.lt
  have hr3 := hr.below h3
  have hB : w.heap.size + 1 ≤ w3.heap.size := by have := hx3.lt; omega
  obtain ⟨A3, c3, W4, hrun, ho, hk⟩ := pushF hf3 hil hB (low p.1, p.2) (by omega)
  have ne : ∀ {g : Nat} {cs : Array Value}, Lies w3 g 47 cs → (Value.slice A2 i c2).ownBlock ≠ some g := fun h => rown_ne hf3 h (by decide)
  have hm4 : Lies W4 gm 47 #[.string (S l), .slice A2 i c2] := hm3.of_same (hk.block gm hm3.lt (ne hm3))
  have hx4 : Lies W4 w.heap.size 47 #[.string (S l), .slice A n c] := hx3.of_same (hk.block _ hx3.lt (ne hx3))
  have hr4 : RowG W4 (w.heap.size + 1) (.slice Ab' m' cb') (upTo l fs (i + 1)) := hr3.same fun g hg => hk.block g (hr3.lt hg).2 fun e => hr3.apart hf3 (by decide) e hg
  have hb4 : Below w.heap.size w W4 := (hb.trans (h3.mono hb.size)).trans (hk.below (by omega) fun k h1 h2 => by have := (rown_lt hf3 h2).1; omega)
  have hlo3 := hlo.below h3 hlo.lt
  have hlo4 : Lies W4 gl 54 #[.string (S p.1), .string (S p.2)] := hlo3.of_same (hk.block gl hlo3.lt hgl)
  refine ⟨A3, c3, W4, hrun, hm4.cell 1, hm4.frozen 1, hlo4, hlo4.apart hm4 (by decide), ?_, hl, hm4.set 1 _, ?_, hx4.far (p := ⟨gm, 1, none⟩) (by show w.heap.size ≠ gm; omega) _, hb4.setCell (p := ⟨gm, 1, none⟩) (by show w.heap.size ≤ gm; omega) _, hg⟩
  · exact hr4.same fun g hg => Below.heap_setCell _ _ _ _ fun e => hr4.ne hm4 (by decide) (by rw [hg]; exact congrArg some e)
  · rw [lowF_add hp]
    exact rown_same ho fun g hg => Below.heap_setCell _ _ _ _ fun e => rown_ne ho hm4 (by decide) (by rw [hg]; exact congrArg some e)
def PrintTo (l : Str) (fs : Flds) (w : World) (e : Ending) (w' : World) : Prop :=
  (prints l fs → ∃ A c, e = .returned (.tuple #[.slice A (pr l fs).length c, .int .i64 0]) ∧ RowG w' w.heap.size (.slice A (pr l fs).length c) (pr l fs) ∧ Below w.heap.size w w') ∧
  (¬ prints l fs → e = .returned (.tuple #[.slice none 0 0, .int .i64 2]) ∧ Below w.heap.size w w')
theorem print_no {l : Str} {fs : Flds} (h : ¬ prints l fs) {w w' : World} (hb : Below w.heap.size w w') : PrintTo l fs w (.returned (.tuple #[.slice none 0 0, .int .i64 2])) w' := ⟨fun h' => absurd h' h, fun _ => ⟨rfl, hb⟩⟩
set_option maxHeartbeats 8000000 in
set_option maxRecDepth 100000 in
theorem print_any {w : World} {ok : Nat → Prop} {A : Option Addr} {n c : Nat} {l : Str} {fs : Flds} (hf : FAt w ok A n c fs) (hok : ∀ g, ok g → g < w.heap.size) (hz : Small l fs) : Calls Tryz.prog 21 #[.agg #[.string (S l), .slice A n c]] w (PrintTo l fs w) := by
  have HN := Bx.mk hf.len
  have HF := Bx.mk hf
  have HO := Bx.mk hok
  have HZ := Bx.mk hz
  have hn30 : n ≤ 16 := by have := hz.most; rw [HN.out] at this; exact this
  have HU := Bx.mk (upTo_len hz)
  obtain ⟨l0, hl0⟩ : ∃ l0, l0 = l ++ [13, 10] := ⟨_, rfl⟩
  have c1 : ∀ W, (Op.stringOp .add (S l) ⟨#[13, 10]⟩).run Tryz.prog W = .ok (.string (S l0)) W := fun W => by rw [hl0]; exact cat l [13, 10] (by have := hz.line; omega) (by simp) W
  have hl0l : l0.length ≤ 2002 := by rw [hl0]; have := hz.line; simp; omega
  obtain ⟨Wb, hWb⟩ : ∃ Wb, Wb = w.alloc (.cells #[.string (S l), .slice A n c] 47) := ⟨_, rfl⟩
  have hbox := Lies.new w 47 #[.string (S l), .slice A n c]
  have hbb : Below w.heap.size w (w.alloc (.cells #[.string (S l), .slice A n c] 47)) := (Below.refl _ _).alloc (Nat.le_refl _) _
  have hsz : (w.alloc (.cells #[.string (S l), .slice A n c] 47)).heap.size = w.heap.size + 1 := by simp
  rw [← hWb] at hbox hbb hsz
  have hconv := conv_any (S l0) Wb
  rw [S_size] at hconv
  have hr := conv_row l0 Wb (by omega)
  have hcb := conv_below (S l0) Wb
  generalize Lib.bytesWorld Wb 5 (S l0) = W0 at *
  generalize grownCap Wb l0.length 0 5 = cc at *
  obtain ⟨m0, hm0⟩ : ∃ m0, l0.length = m0 := ⟨_, rfl⟩
  rw [hm0] at hconv hr
  have hbox0 := hbox.below hcb hbox.lt
  have HP0 : Bx (PrL w l fs A n c W0.heap.size (W0.alloc (.cells #[.string (S l), .slice none 0 0] 47)) 0 m0 (some ⟨w.heap.size + 1, 0, none⟩) cc none 0) := by
    have hal : Below W0.heap.size W0 (W0.alloc (.cells #[.string (S l), .slice none 0 0] 47)) := (Below.refl _ _).alloc (Nat.le_refl _) _
    have e : upTo l fs 0 = l0 := by rw [hl0]; simp [upTo]
    refine ⟨⟨?_, by rw [e]; exact hm0, Lies.new _ _ _, rowF_nil _ _, hbox0.alloc _, (hbb.trans (hcb.mono hbb.size)).trans (hal.mono (Nat.le_trans hbb.size hcb.size)), by have := hcb.size; omega⟩⟩
    rw [e, ← hsz]
    exact hr.below hal
  have b0 := hbox0.cell 0; have b1 := hbox0.cell 1
  have a0 := hbox.cell 0
  simp at b0 b1 a0
  rw [hsz] at hconv
  clear hf hok hz hbox hbb hr hcb hbox0 hl0 hl0l hm0
  go_enter Tryz.func21, Tryz.ntmps21
  go_upto_region 1 with fail
  rw [← hWb]
  clear hWb hsz
  go_upto_region 3 with fail
  generalize W0.heap.size = gm at *
  generalize W0.alloc (.cells #[.string (S l), .slice none 0 0] 47) = W1 at *
  have e1 := HP0.out.box.cell 1
  simp at e1
  clear hconv b0 b1 a0 c1
  go_wp2_with fail
  clear e1
  go_loopw [4, 21] (fun s4 s21 wr => ∃ (i m : Nat) (Ab : Option Addr) (cb : Nat) (A2 : Option Addr) (c2 : Nat), i ≤ n ∧ s21 = .int .i64 (i : Int) ∧ s4 = .slice Ab m cb ∧ Bx (PrL w l fs A n c gm wr i m Ab cb A2 c2)) (fun s4 s21 _ => n - (intOf s21).toNat)
  case atStart => exact ⟨0, m0, _, cc, none, 0, by omega, rfl, rfl, HP0⟩
  case round =>
    clear HP0
    obtain ⟨i, m, Ab, cb, A2, c2, hi, rfl, rfl, H⟩ := hrel
    by_cases hlt : i < n
    · obtain ⟨p, hp⟩ : ∃ p, fs[i]? = some p := ⟨_, List.getElem?_eq_getElem (by rw [HN.out]; exact hlt)⟩
      obtain ⟨g, off, rfl, hg, y0, y1⟩ := (HF.out.below H.out.be HO.out).at hp
      have i0 : (0 : Int) ≤ (i : Int) := by omega
      have i1 : (i : Int) < (n : Int) := by omega
      have hpz := HZ.out.flds p (List.mem_of_getElem? hp)
      have hal : Below wr.heap.size wr (wr.alloc (.cells #[.string (S p.1), .string (S p.2)] 54)) := (Below.refl _ _).alloc (Nat.le_refl _) _
      have HAp := Bx.mk (appF_any (H.out.row.below hal) H.out.len (by have := H.out.box.lt; simp; omega) (by have := HU.out i; rw [H.out.len] at this; omega) p (by omega) (by omega))
      have HPp := Bx.mk hp
      have HLw := Bx.mk (Lower_any p.1 (by omega))
      clear hp hal hg hpz
      go_wp2_with fail
      refine HAp.out.mono ?_
      rintro e W2 ⟨A3, c3, rfl, hr, hk⟩
      rw [← upTo_add HPp.out] at hr
      obtain ⟨m', hm'⟩ : ∃ m', (upTo l fs (i + 1)).length = m' := ⟨_, rfl⟩
      rw [← upTo_add HPp.out, hm']
      rw [hm'] at hr
      obtain ⟨f1, f2, f3, f4, f5⟩ := prl_app H.out hk
      have HM := Bx.mk f1; have HFl := Bx.mk f2; have HBo := Bx.mk f3; have HLo := Bx.mk f4; have HBe := Bx.mk f5
      have HRow := Bx.mk hr
      have HGm := Bx.mk H.out.gm
      have HM' := Bx.mk hm'
      have z0 : W2.cell? ⟨gm, 1, none⟩ = some (.slice A2 i c2) := f1.cell 1
      have x0 : W2.cell? ⟨wr.heap.size, 0, none⟩ = some (.string (S p.1)) := f4.cell 0
      have x1 : W2.cell? ⟨wr.heap.size, 1, none⟩ = some (.string (S p.2)) := f4.cell 1
      have HC : Bx (∀ W', Below W2.heap.size W2 W' → W'.cell? ⟨gm, 1, none⟩ = some (.slice A2 i c2) ∧ W'.cell? ⟨wr.heap.size, 0, none⟩ = some (.string (S p.1)) ∧ W'.cell? ⟨wr.heap.size, 1, none⟩ = some (.string (S p.2))) := ⟨fun W' hb => ⟨cell_kept z0 hb, cell_kept x0 hb, cell_kept x1 hb⟩⟩
      have b0 : Below W2.heap.size W2 W2.drew := (Below.refl _ _).drew
      have HGl : Bx ((Value.slice A2 i c2).ownBlock ≠ some wr.heap.size) := ⟨fun e => by have := (rown_lt H.out.mf e).2; omega⟩
      generalize wr.heap.size = gl at *
      clear f1 f2 f3 f4 f5 hr hk H HAp y0 y1 z0 x0 x1 hm'
      go_wp2_with fail
      go_upto_region 7 with fail
      obtain ⟨z0, _, _⟩ := HC.out _ (Below.refl _ _)
      have hgm := HM.out.lt
      refine wp_region_held_drew (S := fun W' => W'.cell? ⟨gl, 0, none⟩ = some (.string (S p.1)) ∧ W'.cell? ⟨gl, 1, none⟩ = some (.string (S p.2))) (by kernel_rfl) ((HC.out _ b0).2) (fun hHeld => ?_)
      refine wpAnyH_take (i := 0) (oi := { dst := some 28, op := Op.fieldAddr 47 (Operand.tmp 5) 1, type := 0, pos := "head.go:47", after := #[], guard := none }) (v := ?v1) rfl (by kernel_rfl) (by kernel_rfl) (by kernel_rfl) (fun _ _ _ h => h) (Or.inl ⟨by rfl, ?y1⟩) hHeld ?r1
      case y1 => (intro W hSw; (try dsimp only at hSw); go_simp; try with_reducible rfl)
      try simp only [Act.put, List.setIfInBounds_toArray, List.set_cons_zero, List.set_cons_succ]
      refine wpAnyH_take (i := 2) (oi := { dst := some 30, op := Op.indexAddr 54 (Operand.tmp 7) (Operand.const (Value.int IntKind.i64 0)), type := 0, pos := "head.go:47", after := #[], guard := none }) (v := ?v2) rfl (by kernel_rfl) (by kernel_rfl) (by kernel_rfl) (fun _ _ _ h => h) (Or.inl ⟨by rfl, ?y2⟩) hHeld ?r2
      case y2 => (intro W hSw; (try dsimp only at hSw); go_simp; try with_reducible rfl)
      try simp only [Act.put, List.setIfInBounds_toArray, List.set_cons_zero, List.set_cons_succ]
      refine wpAnyH_take (i := 3) (oi := { dst := some 31, op := Op.load 9 (Operand.tmp 30), type := 9, pos := "head.go:47", after := #[{ on := 2, ground := Ground.data }], guard := none }) (v := ?v3) rfl (by kernel_rfl) (by kernel_rfl) (by kernel_rfl) (fun _ _ _ h => h) (Or.inl ⟨by rfl, ?y3⟩) hHeld ?r3
      case y3 => (intro W hSw; (try dsimp only at hSw); go_simp; try with_reducible rfl)
      try simp only [Act.put, List.setIfInBounds_toArray, List.set_cons_zero, List.set_cons_succ]
      refine wpAnyH_take (i := 5) (oi := { dst := some 33, op := Op.indexAddr 54 (Operand.tmp 7) (Operand.const (Value.int IntKind.i64 1)), type := 0, pos := "head.go:47", after := #[], guard := none }) (v := ?v4) rfl (by kernel_rfl) (by kernel_rfl) (by kernel_rfl) (fun _ _ _ h => h) (Or.inl ⟨by rfl, ?y4⟩) hHeld ?r4
      case y4 => (intro W hSw; (try dsimp only at hSw); go_simp; try with_reducible rfl)
      try simp only [Act.put, List.setIfInBounds_toArray, List.set_cons_zero, List.set_cons_succ]
      refine wpAnyH_take (i := 6) (oi := { dst := some 34, op := Op.load 9 (Operand.tmp 33), type := 9, pos := "head.go:47", after := #[{ on := 5, ground := Ground.data }], guard := none }) (v := ?v5) rfl (by kernel_rfl) (by kernel_rfl) (by kernel_rfl) (fun _ _ _ h => h) (Or.inl ⟨by rfl, ?y5⟩) hHeld ?r5
      case y5 => (intro W hSw; (try dsimp only at hSw); go_simp; try with_reducible rfl)
      try simp only [Act.put, List.setIfInBounds_toArray, List.set_cons_zero, List.set_cons_succ]
      refine wpAnyH_ready (rs := [1, 4]) (by kernel_rfl) (by simp) (AllReadyH.cons (o := { dst := some 29, op := Op.load 45 (Operand.tmp 28), type := 45, pos := "head.go:47", after := #[{ on := 0, ground := Ground.data }], guard := none }) rfl (fun K hK => ?_) (AllReadyH.cons (o := { dst := some 32, op := Op.call { callee := Callee.value (Operand.func 22), args := #[Operand.tmp 31], argTypes := #[9] }, type := 9, pos := "head.go:47", after := #[{ on := 3, ground := Ground.data }], guard := none }) rfl (fun K hK => ?_) AllReadyH.nil))
      · go_simp
        refine hK.out _ _ (by first | exact (HC.out _ b0).2 | exact (HC.out _ (b0.alloc b0.size _)).2 | exact ⟨hlo4.cell 0, hlo4.cell 1⟩ | exact ⟨(hlo4.far (p := ⟨gm, 1, none⟩) hne _).cell 0, (hlo4.far (p := ⟨gm, 1, none⟩) hne _).cell 1⟩) (fun hHeld => ?_)
        clear hK K
        try simp only [Act.put, List.setIfInBounds_toArray, List.set_cons_zero, List.set_cons_succ]
        refine wpAnyH_ready (rs := [4]) (by kernel_rfl) (by simp) (AllReadyH.cons (o := { dst := some 32, op := Op.call { callee := Callee.value (Operand.func 22), args := #[Operand.tmp 31], argTypes := #[9] }, type := 9, pos := "head.go:47", after := #[{ on := 3, ground := Ground.data }], guard := none }) rfl (fun K hK => ?_) AllReadyH.nil)
        go_simp
        refine (HLw.out _).mono ?_
        rintro e w3 ⟨rfl, hb3⟩
        replace b0 := b0.trans (hb3.mono b0.size)
        obtain ⟨A4, c4, W4, hrun, q0, q1, hlo4, hne, hprl⟩ := prl_next HPp.out (by omega) HM.out HFl.out HBo.out HBe.out HRow.out HM'.out HGm.out HLo.out HGl.out b0
        obtain ⟨v0, _, _⟩ := HC.out _ b0
        have HPN := Bx.mk hprl
        have hgm3 := Nat.lt_of_lt_of_le hgm b0.size
        clear hprl hb3
        refine hK.out _ _ (by first | exact (HC.out _ b0).2 | exact (HC.out _ (b0.alloc b0.size _)).2 | exact ⟨hlo4.cell 0, hlo4.cell 1⟩ | exact ⟨(hlo4.far (p := ⟨gm, 1, none⟩) hne _).cell 0, (hlo4.far (p := ⟨gm, 1, none⟩) hne _).cell 1⟩) (fun hHeld => ?_)
        clear hK K
        try simp only [Act.put, List.setIfInBounds_toArray, List.set_cons_zero, List.set_cons_succ]
        refine wpAnyH_take (i := 7) (oi := { dst := some 35, op := Op.build 54 #[(0, Operand.tmp 32), (1, Operand.tmp 34)], type := 54, pos := "head.go:47", after := #[{ on := 4, ground := Ground.data }, { on := 6, ground := Ground.data }], guard := none }) (v := ?v6) rfl (by kernel_rfl) (by kernel_rfl) (by kernel_rfl) (fun _ _ _ h => h) (Or.inl ⟨by rfl, ?y6⟩) hHeld ?r6
        case y6 => (intro W hSw; (try dsimp only at hSw); go_simp; try with_reducible rfl)
        try simp only [Act.put, List.setIfInBounds_toArray, List.set_cons_zero, List.set_cons_succ]
        refine wpAnyH_ready (rs := [8]) (by kernel_rfl) (by simp) (AllReadyH.cons (o := { dst := some 36, op := Op.buildSlice 45 1 #[(0, Operand.tmp 35)], type := 45, pos := "head.go:47", after := #[{ on := 7, ground := Ground.data }], guard := none }) rfl (fun K hK => ?_) AllReadyH.nil)
        go_simp
        refine hK.out _ _ (by first | exact (HC.out _ b0).2 | exact (HC.out _ (b0.alloc b0.size _)).2 | exact ⟨hlo4.cell 0, hlo4.cell 1⟩ | exact ⟨(hlo4.far (p := ⟨gm, 1, none⟩) hne _).cell 0, (hlo4.far (p := ⟨gm, 1, none⟩) hne _).cell 1⟩) (fun hHeld => ?_)
        clear hK K
        try simp only [Act.put, List.setIfInBounds_toArray, List.set_cons_zero, List.set_cons_succ]
        refine wpAnyH_ready (rs := [9]) (by kernel_rfl) (by simp) (AllReadyH.cons (o := { dst := some 37, op := Op.call { callee := Callee.builtin Builtin.append, args := #[Operand.tmp 29, Operand.tmp 36], argTypes := #[45, 45] }, type := 45, pos := "head.go:47", after := #[{ on := 1, ground := Ground.data }, { on := 8, ground := Ground.data }, { on := 4, ground := Ground.chain }], guard := none }) rfl (fun K hK => ?_) AllReadyH.nil)
        refine step_append_eq rfl _ _ 45 45 rfl rfl (by simp [Act.eval]) (by simp [Act.eval]) hrun ?_
        refine hK.out _ _ (by first | exact (HC.out _ b0).2 | exact (HC.out _ (b0.alloc b0.size _)).2 | exact ⟨hlo4.cell 0, hlo4.cell 1⟩ | exact ⟨(hlo4.far (p := ⟨gm, 1, none⟩) hne _).cell 0, (hlo4.far (p := ⟨gm, 1, none⟩) hne _).cell 1⟩) (fun hHeld => ?_)
        clear hK K
        try simp only [Act.put, List.setIfInBounds_toArray, List.set_cons_zero, List.set_cons_succ]
        refine wpAnyH_take (i := 10) (oi := { dst := some 38, op := Op.fieldAddr 47 (Operand.tmp 5) 1, type := 0, pos := "head.go:47", after := #[{ on := 0, ground := Ground.phase }, { on := 1, ground := Ground.phase }, { on := 2, ground := Ground.phase }, { on := 3, ground := Ground.phase }, { on := 4, ground := Ground.phase }, { on := 5, ground := Ground.phase }, { on := 6, ground := Ground.phase }, { on := 7, ground := Ground.phase }, { on := 8, ground := Ground.phase }, { on := 9, ground := Ground.phase }], guard := none }) (v := ?v7) rfl (by kernel_rfl) (by kernel_rfl) (by kernel_rfl) (fun _ _ _ h => h) (Or.inl ⟨by rfl, ?y7⟩) hHeld ?r7
        case y7 => (intro W hSw; (try dsimp only at hSw); go_simp; try with_reducible rfl)
        try simp only [Act.put, List.setIfInBounds_toArray, List.set_cons_zero, List.set_cons_succ]
        refine wpAnyH_ready (rs := [11]) (by kernel_rfl) (by simp) (AllReadyH.cons (o := { dst := none, op := Op.store 45 (Operand.tmp 38) (Operand.tmp 37), type := 0, pos := "head.go:47", after := #[{ on := 10, ground := Ground.data }, { on := 9, ground := Ground.data }, { on := 9, ground := Ground.chain }, { on := 0, ground := Ground.phase }, { on := 1, ground := Ground.phase }, { on := 2, ground := Ground.phase }, { on := 3, ground := Ground.phase }, { on := 4, ground := Ground.phase }, { on := 5, ground := Ground.phase }, { on := 6, ground := Ground.phase }, { on := 7, ground := Ground.phase }, { on := 8, ground := Ground.phase }, { on := 9, ground := Ground.phase }], guard := none }) rfl (fun K hK => ?_) AllReadyH.nil)
        go_simp
        refine hK.out _ _ (by first | exact (HC.out _ b0).2 | exact (HC.out _ (b0.alloc b0.size _)).2 | exact ⟨hlo4.cell 0, hlo4.cell 1⟩ | exact ⟨(hlo4.far (p := ⟨gm, 1, none⟩) hne _).cell 0, (hlo4.far (p := ⟨gm, 1, none⟩) hne _).cell 1⟩) (fun hHeld => ?_)
        clear hK K
        try simp only [Act.put, List.setIfInBounds_toArray, List.set_cons_zero, List.set_cons_succ]
        refine wpAnyH_done (by kernel_rfl) ?_ _
        clear hrun q0 q1 hlo4 hne v0 z0 HC HLw
        go_wp2_with fail
        go_roundw
        case rel => exact ⟨i + 1, m', A3, c3, A4, c4, by omega, by go_num, rfl, HPN⟩
        case measure => simp [intOf]; omega
      · go_simp
        refine (HLw.out _).mono ?_
        rintro e w3 ⟨rfl, hb3⟩
        replace b0 := b0.trans (hb3.mono b0.size)
        obtain ⟨A4, c4, W4, hrun, q0, q1, hlo4, hne, hprl⟩ := prl_next HPp.out (by omega) HM.out HFl.out HBo.out HBe.out HRow.out HM'.out HGm.out HLo.out HGl.out b0
        obtain ⟨v0, _, _⟩ := HC.out _ b0
        have HPN := Bx.mk hprl
        have hgm3 := Nat.lt_of_lt_of_le hgm b0.size
        clear hprl hb3
        refine hK.out _ _ (by first | exact (HC.out _ b0).2 | exact (HC.out _ (b0.alloc b0.size _)).2 | exact ⟨hlo4.cell 0, hlo4.cell 1⟩ | exact ⟨(hlo4.far (p := ⟨gm, 1, none⟩) hne _).cell 0, (hlo4.far (p := ⟨gm, 1, none⟩) hne _).cell 1⟩) (fun hHeld => ?_)
        clear hK K
        try simp only [Act.put, List.setIfInBounds_toArray, List.set_cons_zero, List.set_cons_succ]
        refine wpAnyH_take (i := 7) (oi := { dst := some 35, op := Op.build 54 #[(0, Operand.tmp 32), (1, Operand.tmp 34)], type := 54, pos := "head.go:47", after := #[{ on := 4, ground := Ground.data }, { on := 6, ground := Ground.data }], guard := none }) (v := ?v8) rfl (by kernel_rfl) (by kernel_rfl) (by kernel_rfl) (fun _ _ _ h => h) (Or.inl ⟨by rfl, ?y8⟩) hHeld ?r8
        case y8 => (intro W hSw; (try dsimp only at hSw); go_simp; try with_reducible rfl)
        try simp only [Act.put, List.setIfInBounds_toArray, List.set_cons_zero, List.set_cons_succ]
        refine wpAnyH_ready (rs := [1, 8]) (by kernel_rfl) (by simp) (AllReadyH.cons (o := { dst := some 29, op := Op.load 45 (Operand.tmp 28), type := 45, pos := "head.go:47", after := #[{ on := 0, ground := Ground.data }], guard := none }) rfl (fun K hK => ?_) (AllReadyH.cons (o := { dst := some 36, op := Op.buildSlice 45 1 #[(0, Operand.tmp 35)], type := 45, pos := "head.go:47", after := #[{ on := 7, ground := Ground.data }], guard := none }) rfl (fun K hK => ?_) AllReadyH.nil))
        · go_simp
          refine hK.out _ _ (by first | exact (HC.out _ b0).2 | exact (HC.out _ (b0.alloc b0.size _)).2 | exact ⟨hlo4.cell 0, hlo4.cell 1⟩ | exact ⟨(hlo4.far (p := ⟨gm, 1, none⟩) hne _).cell 0, (hlo4.far (p := ⟨gm, 1, none⟩) hne _).cell 1⟩) (fun hHeld => ?_)
          clear hK K
          try simp only [Act.put, List.setIfInBounds_toArray, List.set_cons_zero, List.set_cons_succ]
          refine wpAnyH_ready (rs := [8]) (by kernel_rfl) (by simp) (AllReadyH.cons (o := { dst := some 36, op := Op.buildSlice 45 1 #[(0, Operand.tmp 35)], type := 45, pos := "head.go:47", after := #[{ on := 7, ground := Ground.data }], guard := none }) rfl (fun K hK => ?_) AllReadyH.nil)
          go_simp
          refine hK.out _ _ (by first | exact (HC.out _ b0).2 | exact (HC.out _ (b0.alloc b0.size _)).2 | exact ⟨hlo4.cell 0, hlo4.cell 1⟩ | exact ⟨(hlo4.far (p := ⟨gm, 1, none⟩) hne _).cell 0, (hlo4.far (p := ⟨gm, 1, none⟩) hne _).cell 1⟩) (fun hHeld => ?_)
          clear hK K
          try simp only [Act.put, List.setIfInBounds_toArray, List.set_cons_zero, List.set_cons_succ]
          refine wpAnyH_ready (rs := [9]) (by kernel_rfl) (by simp) (AllReadyH.cons (o := { dst := some 37, op := Op.call { callee := Callee.builtin Builtin.append, args := #[Operand.tmp 29, Operand.tmp 36], argTypes := #[45, 45] }, type := 45, pos := "head.go:47", after := #[{ on := 1, ground := Ground.data }, { on := 8, ground := Ground.data }, { on := 4, ground := Ground.chain }], guard := none }) rfl (fun K hK => ?_) AllReadyH.nil)
          refine step_append_eq rfl _ _ 45 45 rfl rfl (by simp [Act.eval]) (by simp [Act.eval]) hrun ?_
          refine hK.out _ _ (by first | exact (HC.out _ b0).2 | exact (HC.out _ (b0.alloc b0.size _)).2 | exact ⟨hlo4.cell 0, hlo4.cell 1⟩ | exact ⟨(hlo4.far (p := ⟨gm, 1, none⟩) hne _).cell 0, (hlo4.far (p := ⟨gm, 1, none⟩) hne _).cell 1⟩) (fun hHeld => ?_)
          clear hK K
          try simp only [Act.put, List.setIfInBounds_toArray, List.set_cons_zero, List.set_cons_succ]
          refine wpAnyH_take (i := 10) (oi := { dst := some 38, op := Op.fieldAddr 47 (Operand.tmp 5) 1, type := 0, pos := "head.go:47", after := #[{ on := 0, ground := Ground.phase }, { on := 1, ground := Ground.phase }, { on := 2, ground := Ground.phase }, { on := 3, ground := Ground.phase }, { on := 4, ground := Ground.phase }, { on := 5, ground := Ground.phase }, { on := 6, ground := Ground.phase }, { on := 7, ground := Ground.phase }, { on := 8, ground := Ground.phase }, { on := 9, ground := Ground.phase }], guard := none }) (v := ?v9) rfl (by kernel_rfl) (by kernel_rfl) (by kernel_rfl) (fun _ _ _ h => h) (Or.inl ⟨by rfl, ?y9⟩) hHeld ?r9
          case y9 => (intro W hSw; (try dsimp only at hSw); go_simp; try with_reducible rfl)
          try simp only [Act.put, List.setIfInBounds_toArray, List.set_cons_zero, List.set_cons_succ]
          refine wpAnyH_ready (rs := [11]) (by kernel_rfl) (by simp) (AllReadyH.cons (o := { dst := none, op := Op.store 45 (Operand.tmp 38) (Operand.tmp 37), type := 0, pos := "head.go:47", after := #[{ on := 10, ground := Ground.data }, { on := 9, ground := Ground.data }, { on := 9, ground := Ground.chain }, { on := 0, ground := Ground.phase }, { on := 1, ground := Ground.phase }, { on := 2, ground := Ground.phase }, { on := 3, ground := Ground.phase }, { on := 4, ground := Ground.phase }, { on := 5, ground := Ground.phase }, { on := 6, ground := Ground.phase }, { on := 7, ground := Ground.phase }, { on := 8, ground := Ground.phase }, { on := 9, ground := Ground.phase }], guard := none }) rfl (fun K hK => ?_) AllReadyH.nil)
          go_simp
          refine hK.out _ _ (by first | exact (HC.out _ b0).2 | exact (HC.out _ (b0.alloc b0.size _)).2 | exact ⟨hlo4.cell 0, hlo4.cell 1⟩ | exact ⟨(hlo4.far (p := ⟨gm, 1, none⟩) hne _).cell 0, (hlo4.far (p := ⟨gm, 1, none⟩) hne _).cell 1⟩) (fun hHeld => ?_)
          clear hK K
          try simp only [Act.put, List.setIfInBounds_toArray, List.set_cons_zero, List.set_cons_succ]
          refine wpAnyH_done (by kernel_rfl) ?_ _
          clear hrun q0 q1 hlo4 hne v0 z0 HC HLw
          go_wp2_with fail
          go_roundw
          case rel => exact ⟨i + 1, m', A3, c3, A4, c4, by omega, by go_num, rfl, HPN⟩
          case measure => simp [intOf]; omega
        · go_simp
          refine hK.out _ _ (by first | exact (HC.out _ b0).2 | exact (HC.out _ (b0.alloc b0.size _)).2 | exact ⟨hlo4.cell 0, hlo4.cell 1⟩ | exact ⟨(hlo4.far (p := ⟨gm, 1, none⟩) hne _).cell 0, (hlo4.far (p := ⟨gm, 1, none⟩) hne _).cell 1⟩) (fun hHeld => ?_)
          clear hK K
          try simp only [Act.put, List.setIfInBounds_toArray, List.set_cons_zero, List.set_cons_succ]
          refine wpAnyH_ready (rs := [1]) (by kernel_rfl) (by simp) (AllReadyH.cons (o := { dst := some 29, op := Op.load 45 (Operand.tmp 28), type := 45, pos := "head.go:47", after := #[{ on := 0, ground := Ground.data }], guard := none }) rfl (fun K hK => ?_) AllReadyH.nil)
          go_simp
          refine hK.out _ _ (by first | exact (HC.out _ b0).2 | exact (HC.out _ (b0.alloc b0.size _)).2 | exact ⟨hlo4.cell 0, hlo4.cell 1⟩ | exact ⟨(hlo4.far (p := ⟨gm, 1, none⟩) hne _).cell 0, (hlo4.far (p := ⟨gm, 1, none⟩) hne _).cell 1⟩) (fun hHeld => ?_)
          clear hK K
          try simp only [Act.put, List.setIfInBounds_toArray, List.set_cons_zero, List.set_cons_succ]
          refine wpAnyH_ready (rs := [9]) (by kernel_rfl) (by simp) (AllReadyH.cons (o := { dst := some 37, op := Op.call { callee := Callee.builtin Builtin.append, args := #[Operand.tmp 29, Operand.tmp 36], argTypes := #[45, 45] }, type := 45, pos := "head.go:47", after := #[{ on := 1, ground := Ground.data }, { on := 8, ground := Ground.data }, { on := 4, ground := Ground.chain }], guard := none }) rfl (fun K hK => ?_) AllReadyH.nil)
          refine step_append_eq rfl _ _ 45 45 rfl rfl (by simp [Act.eval]) (by simp [Act.eval]) hrun ?_
          refine hK.out _ _ (by first | exact (HC.out _ b0).2 | exact (HC.out _ (b0.alloc b0.size _)).2 | exact ⟨hlo4.cell 0, hlo4.cell 1⟩ | exact ⟨(hlo4.far (p := ⟨gm, 1, none⟩) hne _).cell 0, (hlo4.far (p := ⟨gm, 1, none⟩) hne _).cell 1⟩) (fun hHeld => ?_)
          clear hK K
          try simp only [Act.put, List.setIfInBounds_toArray, List.set_cons_zero, List.set_cons_succ]
          refine wpAnyH_take (i := 10) (oi := { dst := some 38, op := Op.fieldAddr 47 (Operand.tmp 5) 1, type := 0, pos := "head.go:47", after := #[{ on := 0, ground := Ground.phase }, { on := 1, ground := Ground.phase }, { on := 2, ground := Ground.phase }, { on := 3, ground := Ground.phase }, { on := 4, ground := Ground.phase }, { on := 5, ground := Ground.phase }, { on := 6, ground := Ground.phase }, { on := 7, ground := Ground.phase }, { on := 8, ground := Ground.phase }, { on := 9, ground := Ground.phase }], guard := none }) (v := ?v10) rfl (by kernel_rfl) (by kernel_rfl) (by kernel_rfl) (fun _ _ _ h => h) (Or.inl ⟨by rfl, ?y10⟩) hHeld ?r10
          case y10 => (intro W hSw; (try dsimp only at hSw); go_simp; try with_reducible rfl)
          try simp only [Act.put, List.setIfInBounds_toArray, List.set_cons_zero, List.set_cons_succ]
          refine wpAnyH_ready (rs := [11]) (by kernel_rfl) (by simp) (AllReadyH.cons (o := { dst := none, op := Op.store 45 (Operand.tmp 38) (Operand.tmp 37), type := 0, pos := "head.go:47", after := #[{ on := 10, ground := Ground.data }, { on := 9, ground := Ground.data }, { on := 9, ground := Ground.chain }, { on := 0, ground := Ground.phase }, { on := 1, ground := Ground.phase }, { on := 2, ground := Ground.phase }, { on := 3, ground := Ground.phase }, { on := 4, ground := Ground.phase }, { on := 5, ground := Ground.phase }, { on := 6, ground := Ground.phase }, { on := 7, ground := Ground.phase }, { on := 8, ground := Ground.phase }, { on := 9, ground := Ground.phase }], guard := none }) rfl (fun K hK => ?_) AllReadyH.nil)
          go_simp
          refine hK.out _ _ (by first | exact (HC.out _ b0).2 | exact (HC.out _ (b0.alloc b0.size _)).2 | exact ⟨hlo4.cell 0, hlo4.cell 1⟩ | exact ⟨(hlo4.far (p := ⟨gm, 1, none⟩) hne _).cell 0, (hlo4.far (p := ⟨gm, 1, none⟩) hne _).cell 1⟩) (fun hHeld => ?_)
          clear hK K
          try simp only [Act.put, List.setIfInBounds_toArray, List.set_cons_zero, List.set_cons_succ]
          refine wpAnyH_done (by kernel_rfl) ?_ _
          clear hrun q0 q1 hlo4 hne v0 z0 HC HLw
          go_wp2_with fail
          go_roundw
          case rel => exact ⟨i + 1, m', A3, c3, A4, c4, by omega, by go_num, rfl, HPN⟩
          case measure => simp [intOf]; omega
    · obtain rfl : i = n := by omega
      have hB : w.heap.size + 1 ≤ wr.heap.size := by have := H.out.box.lt; omega
      have hpl : m + 2 ≤ 100000 := by have := HU.out i; rw [H.out.len] at this; omega
      obtain ⟨A3, c3, W3, hrun, hr3, hk3⟩ := appS_kn ⟨H.out.row, Kn.refl _ wr⟩ H.out.len hB [13, 10] (k := m + 2) rfl hpl
      have hrun' : (Builtin.append_ #[29, 9] 29 #[.slice Ab m cb, .string ⟨#[13, 10]⟩]).run Tryz.prog wr = .ok (.slice A3 (m + 2 : Nat) c3) W3 := hrun
      rw [upTo_all HN.out] at hr3
      have hpr : (pr l fs).length = m + 2 := by rw [← upTo_all HN.out, List.length_append, H.out.len]; rfl
      have HPr := Bx.mk hpr
      have HR := Bx.mk hrun'
      have hmt := hk3.lies H.out.mt (by decide)
      have hmf := hk3.row H.out.mf (by decide)
      have hbe : Below w.heap.size w W3 := H.out.be.trans ((hk3.below hB).mono (by omega))
      have hfull : lowF (fs.take i) = lowF fs := by rw [List.take_of_length_le (by rw [HN.out]; exact Nat.le_refl _)]
      rw [hfull] at hmf
      obtain ⟨l2, fs2, n2, e2, hx⟩ : ∃ l2 fs' n2 e2, take (pr l fs) = (l2, fs', n2, e2) := ⟨_, _, _, _, rfl⟩
      have HX := Bx.mk hx
      obtain ⟨M, hM⟩ : ∃ M, m + 2 = M := ⟨_, rfl⟩
      rw [hM] at hr3 HPr HR hpr
      have HTk := Bx.mk (take_any0 (hr3.spell hpr) (fun g hg => hg))
      have HRow := Bx.mk hr3
      have HMt := Bx.mk hmt; have HMf := Bx.mk hmf; have HBe := Bx.mk hbe
      have HPI : Bx (prints l fs ↔ (l2 = l ∧ fs2 = lowF fs ∧ n2 = M ∧ e2 = 0)) := ⟨by unfold prints; rw [hx, HPr.out]; simp⟩
      have HN2 := Bx.mk (take_most hx)
      clear hB hpl hrun hr3 hk3 hrun' hpr hmt hmf hbe hfull hx hM H hlt
      go_wp2_with (at_builtin; refine wpList_append_g rfl _ _ 29 9 rfl rfl rfl rfl HR.out ?_)
      refine HTk.out.mono ?_
      intro en w4 ht
      obtain ⟨A4, c4, rfl, hf4, hb4⟩ := take_r HX.out ht
      have L := Lies.new w4 47 #[.string (S l2), .slice A4 fs2.length c4]
      have hal := (Below.refl w4.heap.size w4).alloc (Nat.le_refl _) (.cells #[.string (S l2), .slice A4 fs2.length c4] 47)
      have hb5 := hb4.alloc hb4.size (.cells #[.string (S l2), .slice A4 fs2.length c4] 47)
      have HF4 : Bx (FAt (w4.alloc (.cells #[.string (S l2), .slice A4 fs2.length c4] 47)) (fun g => g < (w4.alloc (.cells #[.string (S l2), .slice A4 fs2.length c4] 47)).heap.size) A4 fs2.length c4 fs2) := ⟨(hf4.below hal (fun g hg => hg)).weak fun g hg => Nat.lt_of_lt_of_le hg hal.size⟩
      have HL := Bx.mk L
      have HMt5 := Bx.mk (HMt.out.below hb5 HMt.out.lt)
      have HMf5 := Bx.mk (rown_same HMf.out fun g hg => hb5.block g (rown_lt HMf.out hg).2)
      have HBe5 := Bx.mk (HBe.out.trans (hb5.mono HBe.out.size))
      have HRow5 := Bx.mk (HRow.out.below hb5)
      clear ht hf4 hb4 L hal hb5 HTk HR HRow HMt HMf HBe
      go_upto_region 11 with fail
      generalize w4.alloc (.cells #[.string (S l2), .slice A4 fs2.length c4] 47) = W5 at *
      generalize w4.heap.size = g8 at *
      have z0 := HL.out.cell 0; have z1 := HL.out.cell 1
      have y0 := HMt5.out.cell 0; have y1 := HMt5.out.cell 1
      simp at z0 z1 y0 y1
      by_cases he : e2 = 0
      · have q1 : ((e2 : Int) != 0) = false := by rw [he]; rfl
        by_cases hn2 : n2 = M
        · have q2 : ((n2 : Int) != (M : Int)) = false := by rw [hn2]; simp
          have hS := Same_any (w := W5) (va := .agg #[.string (S l2), .slice A4 fs2.length c4]) (vb := .agg #[.string (S l), .slice A2 i c2]) ⟨A4, _, c4, rfl, HF4.out⟩ (fun g hg => hg) ⟨A2, _, c2, rfl, rowF_at HMf5.out (by rw [lowF_len, HN.out])⟩ (fun g hg => hg) (by have := HN2.out; omega)
          by_cases hsame : l2 = l ∧ fs2 = lowF fs
          · rw [decide_eq_true hsame] at hS
            have HS := Bx.mk hS
            have HY : Bx (prints l fs) := ⟨HPI.out.2 ⟨hsame.1, hsame.2, hn2, he⟩⟩
            clear hS hsame he hn2
            go_wp2_with fail
            refine HS.out.mono ?_
            rintro e w6 ⟨rfl, hb6⟩
            have HE : Bx (PrintTo l fs w (.returned (.tuple #[.slice A3 M c3, .int .i64 0])) w6) := ⟨by
              refine ⟨fun _ => ⟨A3, c3, by rw [HPr.out], ?_, HBe5.out.trans (hb6.mono HBe5.out.size)⟩, fun h => absurd HY.out h⟩
              rw [HPr.out]
              exact (HRow5.out.below hb6).weak (by omega)⟩
            clear hb6 HS z0 z1 y0 y1
            go_wp2_with fail
            exact bodyPost_ret (v := .tuple #[.slice A3 M c3, .int .i64 0]) (by simp [results, Tryz.results21, go_sem]) rfl HE.out
          · rw [decide_eq_false hsame] at hS
            have HS := Bx.mk hS
            have HY : Bx (¬ prints l fs) := ⟨fun h => hsame ⟨(HPI.out.1 h).1, (HPI.out.1 h).2.1⟩⟩
            clear hS hsame he hn2
            go_wp2_with fail
            refine HS.out.mono ?_
            rintro e w6 ⟨rfl, hb6⟩
            have HE := Bx.mk (print_no HY.out (HBe5.out.trans (hb6.mono HBe5.out.size)))
            clear hb6 HS z0 z1 y0 y1
            go_wp2_with fail
            exact bodyPost_ret (v := .tuple #[.slice none 0 0, .int .i64 2]) (by simp [results, Tryz.results21, go_sem]) rfl HE.out
        · have q2 : ((n2 : Int) != (M : Int)) = true := by simp; omega
          have HE := Bx.mk (print_no (fun h => hn2 (HPI.out.1 h).2.2.1) HBe5.out)
          clear he hn2
          go_wp2_with fail
          exact bodyPost_ret (v := .tuple #[.slice none 0 0, .int .i64 2]) (by simp [results, Tryz.results21, go_sem]) rfl HE.out
      · have q1 : ((e2 : Int) != 0) = true := by simp; omega
        have HE := Bx.mk (print_no (fun h => he (HPI.out.1 h).2.2.2) HBe5.out)
        clear he
        go_wp2_with fail
        exact bodyPost_ret (v := .tuple #[.slice none 0 0, .int .i64 2]) (by simp [results, Tryz.results21, go_sem]) rfl HE.out
end Go.Proofs.YtghdaengkgiekaaGreatDoor.hd
