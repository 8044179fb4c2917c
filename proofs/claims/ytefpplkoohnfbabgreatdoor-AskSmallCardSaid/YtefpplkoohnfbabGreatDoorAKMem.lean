/-
  Given for the seat's laws: bytes as they lie in memory, more of it; the reader of bytes as it lies. No condition.
-/
import Derived.Test.YtefpplkoohnfbabGreatDoorHOwn
import Derived.Test.YtefpplkoohnfbabGreatDoorAKPure2
import Derived.Shelf.Strings.Repeat
namespace Go.Proofs.YtefpplkoohnfbabGreatDoor.ak
open Go.RowKit mem hostp hw own
set_option linter.unusedVariables false

/-- the byte at place i of a slice of bytes -/
theorem Src.cell {w : World} {ok : Nat → Prop} {A : Option Addr} {l c : Nat} {bs : List Int} (h : Src w ok A l c bs) {i : Nat} (hi : i < l) : ∃ g off x, A = some ⟨g, off, none⟩ ∧ ok g ∧ bs[i]? = some x ∧ w.cell? ⟨g, off + i, none⟩ = some (.int .u8 x) := by
  obtain ⟨g, off, e, ho, hc⟩ := h.lies (by rw [h.len]; omega)
  have hi' : i < bs.length := by rw [h.len]; exact hi
  exact ⟨g, off, bs[i], e, ho, List.getElem?_eq_getElem hi', hc i _ (List.getElem?_eq_getElem hi')⟩

theorem cut_l (W : World) (A : Option Addr) (n c k : Nat) (h : k ≤ n) :
    (Instr.slice 28 (.slice A n c) (some (.int .i64 (k : Int))) none none).run Tryz.prog W = .ok (.slice (cutA A c k) (n - k) (c - k)) W := by
  obtain ⟨i0, hi, hz0, hz1, hz2⟩ := info_parts (show (Tryz.prog.info? 5).map (fun i => (i.zero, i.size, i.bytes)) = some (some (.int .u8 0), 1, 1) by kernel_rfl)
  rw [run_slice_l W 28 _ n c (by kernel_rfl) .i64 _ (by omega) (by omega)]
  have he : Tryz.prog.elem 28 = 5 := by kernel_rfl
  rw [he]
  have hs : (sizeOf 5).run Tryz.prog W = .ok 1 W := by simp [sizeOf, typeInfo, hi, hz1]
  rw [hs]
  simp only [Result.andThen, sliced, Int.toNat_natCast, Nat.mul_one]
  rfl

/-- one byte more -/
theorem Made.push {w w1 : World} {v : Value} {l : Str} (h : Made w w1 v l) (hl : l.length ≤ 100000) (x : UInt8) :
    ∃ A c w2, (Builtin.append_ #[28, 28] 28 #[v, .slice (some ⟨w1.heap.size, 0, none⟩) 1 1]).run Tryz.prog (w1.alloc (.cells #[.int .u8 (x.toNat : Int)] 5)) = .ok (.slice A (l.length + 1) c) w2 ∧
      Made w w2 (.slice A (l.length + 1) c) (l ++ [x]) := by
  have h3 := own_same (w' := w1.alloc (.cells #[.int .u8 (x.toNat : Int)] 5)) h.own (fun g hg => Below.heap_alloc _ _ _ (own_lt h.own hg).2)
  obtain ⟨A2, c2, w2, happ, ho, hg, _⟩ := append_at h3 (src_lit w1 [(x.toNat : Int)] (0, 0) (by have := x.toNat_lt; simp; omega) (by simp)) (by simp; omega) (by simp; have := h.below.size; omega)
  refine ⟨A2, c2, w2, happ, ?_, ((h.below.alloc h.below.size _).grown hg (h.below.alloc h.below.size _).size (own_ge h3))⟩
  rw [ints_app]
  have : (l ++ [x]).length = l.length + 1 := by simp
  rw [this]
  exact ho

/-- the empty literal is the call's own -/
theorem own_empty (w : World) : (w.alloc (.cells #[] 5)).ownsRow w.heap.size 5 1 (.slice (some ⟨w.heap.size, 0, none⟩) 0 0) 0 (B8 (ints [])) :=
  ⟨rfl, .inr ⟨w.heap.size, 0, #[], rfl, Nat.le_refl _, heap_alloc_new w _, Nat.le_refl _, by unfold maxLen; omega, rfl, rfl⟩⟩
theorem made_empty (w : World) : Made w (w.alloc (.cells #[] 5)) (.slice (some ⟨w.heap.size, 0, none⟩) (0 : Nat) 0) [] := ⟨own_empty w, (Below.refl _ _).alloc (Nat.le_refl _) _⟩
theorem mine {w : World} {ok : Nat → Prop} {A : Option Addr} {n c : Nat} {b : Str} (hs : Spell w ok A n c b) (hok : ∀ g, ok g → g < w.heap.size) (hl : n ≤ 10000) :
    ∃ A2 c2 w2, (Builtin.append_ #[28, 28] 28 #[.slice (some ⟨w.heap.size, 0, none⟩) 0 0, .slice A n c]).run Tryz.prog (w.alloc (.cells #[] 5)) = .ok (.slice A2 n c2) w2 ∧ Made w w2 (.slice A2 n c2) b := by
  have h1 := hs.below ((Below.refl w.heap.size w).alloc (Nat.le_refl _) (.cells #[] 5)) hok
  obtain ⟨A2, c2, w2, happ, hmd⟩ := (made_empty w).app (Below.refl _ _) h1 (by simp; omega)
  simp only [List.length_nil, Nat.zero_add, List.nil_append] at happ hmd
  exact ⟨A2, c2, w2, happ, hmd⟩
theorem made_spell {w wr : World} {A : Option Addr} {n c : Nat} {b : Str} (h : Made w wr (.slice A n c) b) (hn : b.length = n) : Spell wr (fun g => g < wr.heap.size) A n c b := by
  subst hn
  exact (own_spell h.own).weak fun g hg => hg.2.1

theorem S_toList (l : Str) : (S l).toList = l := by rw [Lib.toList_data]; exact S_list l
theorem str_ne {a b : Str} (h : a ≠ b) : ((S a).toList == (S b).toList) = false ∧ ((S a).toList != (S b).toList) = true := by
  rw [S_toList, S_toList]
  have h1 : (a == b) = false := beq_eq_false_iff_ne.2 h
  exact ⟨h1, by simp [bne, h1]⟩
theorem str_eq (a : Str) : ((S a).toList == (S a).toList) = true ∧ ((S a).toList != (S a).toList) = false := by simp

theorem Src.takeN {w : World} {ok : Nat → Prop} {A : Option Addr} {l c : Nat} {bs : List Int} (h : Src w ok A l c bs) (m : Nat) (hm : m ≤ l) : Src w ok A m c (bs.take m) :=
  ⟨by have := h.len; simp; omega, by have := h.cap; omega, h.non, h.max, fun x hx => h.rng x (List.mem_of_mem_take hx), h.lies.take m⟩
theorem ints_take (l : Str) (m : Nat) : (ints l).take m = ints (l.take m) := by simp [ints]
theorem ints_drop (l : Str) (m : Nat) : (ints l).drop m = ints (l.drop m) := by simp [ints]
theorem made_nil (w : World) : Made w w (.slice none (0 : Nat) 0) [] := ⟨own_none w _ _, Below.refl _ _⟩
def True_ (w : World) (e : Ending) (w' : World) : Prop := e = .returned (.bool true) ∧ Below w.heap.size w w'
theorem first_cell {w : World} {ok : Nat → Prop} {A : Option Addr} {n c : Nat} {x : UInt8} {r : Str} (hs : Spell w ok A n c (x :: r)) : ∃ g off, A = some ⟨g, off, none⟩ ∧ ok g ∧ w.cell? ⟨g, off, none⟩ = some (.int .u8 (x.toNat : Int)) := by
  obtain ⟨g, off, rfl, ho, hc⟩ := hs.lies (by simp [ints])
  exact ⟨g, off, rfl, ho, hc 0 _ (by simp [ints])⟩

theorem below_drewN {B : Nat} {w w' : World} (h : Below B w w') (n : Nat) : Below B w (w'.drewN n) := ⟨h.os, h.tape, h.output, h.size, h.block⟩

/-- A READER IN THE BLOCK g, and what stands behind it there; its bytes lie below B -/
structure Rd (W : World) (B g : Nat) (t : TypeId) (r : R) (rest : List Value) : Prop where
  lies : ∃ A c, Lies W g t (Value.slice A r.l.length c :: .int .i64 (r.k : Int) :: .int .i64 (r.f : Int) :: rest).toArray ∧ Spell W (fun h => h < B) A r.l.length c r.l
  ge : B ≤ g
  sum : r.k + r.l.length ≤ 100000
/-- nothing that was there has turned but the block g -/
abbrev Kp (g : Nat) (W W' : World) : Prop := Keep W.heap.size (fun x => x = g) W W'
theorem kp_refl (g : Nat) (W : World) : Kp g W W := Keep.refl _ _ _
theorem kp_trans {g : Nat} {W W1 W2 : World} (h : Kp g W W1) (k : Kp g W1 W2) : Kp g W W2 := h.trans (k.mono h.size (fun _ _ e => e))
theorem kp_below {g : Nat} {W W1 : World} (h : Below W.heap.size W W1) : Kp g W W1 := Keep.of_below h _
theorem kp_to {g B : Nat} {W W1 : World} (h : Kp g W W1) (hg : B ≤ g) (hB : B ≤ W.heap.size) : Below B W W1 := ⟨h.os, h.tape, h.output, h.size, fun k hk => h.block k (by omega) (by omega)⟩
theorem kp_lies {g L : Nat} {t : TypeId} {cs : Array Value} {W W1 : World} (h : Kp g W W1) (hl : Lies W L t cs) (hg : L ≠ g) : Lies W1 L t cs := hl.of_same (h.block L hl.lt hg)
def RdTo (v : Value) (B g : Nat) (t : TypeId) (r : R) (rest : List Value) (W : World) (e : Ending) (W' : World) : Prop := e = .returned v ∧ Rd W' B g t r rest ∧ Kp g W W'
theorem Rd.keep {W W' : World} {B g : Nat} {t : TypeId} {r : R} {rest : List Value} (h : Rd W B g t r rest) (hb : Below W.heap.size W W') : Rd W' B g t r rest := by
  obtain ⟨A, c, hl, hs⟩ := h.lies
  exact ⟨⟨A, c, hl.below hb hl.lt, hs.below (hb.mono (Nat.le_trans h.ge (Nat.le_of_lt hl.lt))) (fun g hg => hg)⟩, h.ge, h.sum⟩
end Go.Proofs.YtefpplkoohnfbabGreatDoor.ak
