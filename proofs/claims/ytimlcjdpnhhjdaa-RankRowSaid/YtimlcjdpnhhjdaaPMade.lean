/-
  Given for the seat's laws: bytes of the call's own, literals, and texts compared. No condition.
-/
import Derived.Test.YtimlcjdpnhhjdaaPMem
import Derived.Laws.BitsAllLaws
import Derived.OwnWalk
import Derived.Lib.SlBytesConst
namespace Go.Proofs.Ytimlcjdpnhhjdaa.sp
open Go.RowKit mem
set_option linter.unusedVariables false

theorem lit_cell (w : World) (cs : Array Value) (t : TypeId) (fz : Nat × Nat) (j : Nat) : (w.alloc (.cells cs t fz)).cell? ⟨w.heap.size, j, none⟩ = cs[j]? := by
  have h : (w.alloc (.cells cs t fz)).heap[w.heap.size]? = some (.cells cs t fz) := heap_alloc_new w _
  unfold World.cell?
  rw [h]
  rfl
theorem src_lit (w : World) (xs : List Int) (fz : Nat × Nat) (hr : ∀ x ∈ xs, 0 ≤ x ∧ x < 256) (hl : xs.length ≤ 1000) : Src (w.alloc (.cells (B8 xs).toArray 5 fz)) (fun g => g = w.heap.size) (some ⟨w.heap.size, 0, none⟩) xs.length xs.length xs :=
  ⟨rfl, Nat.le_refl _, fun e => (by cases e), by unfold maxLen; omega, hr, fun _ => ⟨w.heap.size, 0, rfl, rfl, fun j z hz => by rw [Nat.zero_add, lit_cell]; simp [B8, hz]⟩⟩

/-- bytes of the call's own, and nothing that was there has turned -/
structure Made (w wr : World) (v : Value) (l : Str) : Prop where
  own : wr.ownsRow w.heap.size 5 1 v l.length (B8 (ints l))
  below : Below w.heap.size w wr
theorem Made.still {w wx wy : World} {v : Value} {l : Str} (h : Made w wx v l) (hs : Still wx wy) : Made w wy v l :=
  ⟨own_same h.own (fun g _ => by rw [hs.heap]), h.below.trans ((hs.below _).mono (Nat.le_refl _))⟩
theorem own_ge {w : World} {B : Nat} {v : Value} {k : Nat} {xs : List Value} (h : w.ownsRow B 5 1 v k xs) : ∀ g, v.ownBlock = some g → B ≤ g := fun g e => (own_lt h e).1
theorem Made.fresh {w wx wy : World} {v : Value} {l : Str} (h : Made w wx v l) (hb : Below wx.heap.size wx wy) : Made w wy v l :=
  ⟨own_same h.own (fun g hg => hb.block g (own_lt h.own hg).2), h.below.trans (hb.mono h.below.size)⟩
/-- one byte more -/
theorem Made.push {w w1 : World} {v : Value} {l : Str} (h : Made w w1 v l) (hl : l.length ≤ 100000) (x : UInt8) :
    ∃ A c w2, (Builtin.append_ #[22, 22] 22 #[v, .slice (some ⟨w1.heap.size, 0, none⟩) 1 1]).run Try.prog (w1.alloc (.cells #[.int .u8 (x.toNat : Int)] 5)) = .ok (.slice A (l.length + 1) c) w2 ∧
      Made w w2 (.slice A (l.length + 1) c) (l ++ [x]) := by
  have h3 := own_same (w' := w1.alloc (.cells #[.int .u8 (x.toNat : Int)] 5)) h.own (fun g hg => Below.heap_alloc _ _ _ (own_lt h.own hg).2)
  obtain ⟨A2, c2, w2, happ, ho, hg, _⟩ := append_at h3 (src_lit w1 [(x.toNat : Int)] (0, 0) (by have := x.toNat_lt; simp; omega) (by simp)) (by simp; omega) (by simp; have := h.below.size; omega)
  refine ⟨A2, c2, w2, happ, ?_, ((h.below.alloc h.below.size _).grown hg (h.below.alloc h.below.size _).size (own_ge h3))⟩
  rw [ints_app]
  have : (l ++ [x]).length = l.length + 1 := by simp
  rw [this]
  exact ho

theorem src_lies {w : World} {g : Nat} {xs : List Int} (h : Lies w g 5 (B8 xs).toArray) (hr : ∀ x ∈ xs, 0 ≤ x ∧ x < 256) (hl : xs.length ≤ 1000) : Src w (fun k => k = g) (some ⟨g, 0, none⟩) xs.length xs.length xs :=
  ⟨rfl, Nat.le_refl _, fun e => (by cases e), by unfold maxLen; omega, hr, fun _ => ⟨g, 0, rfl, rfl, fun j z hz => by rw [Nat.zero_add, h.cell]; simp [B8, hz]⟩⟩
/-- bytes more -/
theorem Made.app {w wr W : World} {v : Value} {l ys : Str} {ok : Nat → Prop} {A : Option Addr} {m c : Nat} (h : Made w wr v l) (hb : Below wr.heap.size wr W) (hs : Spell W ok A m c ys) (hl : l.length + m ≤ 100000) :
    ∃ A2 c2 w2, (Builtin.append_ #[22, 22] 22 #[v, .slice A m c]).run Try.prog W = .ok (.slice A2 (l.length + m) c2) w2 ∧ Made w w2 (.slice A2 (l.length + m) c2) (l ++ ys) := by
  have h1 := h.fresh hb
  obtain ⟨A2, c2, w2, happ, ho, hg, _⟩ := append_at h1.own hs (by omega) (by have := h1.below.size; omega)
  refine ⟨A2, c2, w2, happ, ?_, h1.below.grown hg h1.below.size (own_ge h1.own)⟩
  rw [ints_app]
  have : (l ++ ys).length = l.length + m := by rw [List.length_append, spell_len hs]
  rw [this]
  exact ho

theorem S_toList (l : Str) : (S l).toList = l := by rw [Lib.toList_data]; exact S_list l
theorem str_ne {a b : Str} (h : a ≠ b) : ((S a).toList == (S b).toList) = false ∧ ((S a).toList != (S b).toList) = true := by
  rw [S_toList, S_toList]
  have h1 : (a == b) = false := beq_eq_false_iff_ne.2 h
  exact ⟨h1, by simp [bne, h1]⟩
theorem str_eq (a : Str) : ((S a).toList == (S a).toList) = true ∧ ((S a).toList != (S a).toList) = false := by simp

/-- the empty literal is the call's own -/
theorem own_empty (w : World) : (w.alloc (.cells #[] 5)).ownsRow w.heap.size 5 1 (.slice (some ⟨w.heap.size, 0, none⟩) 0 0) 0 (B8 (ints [])) :=
  ⟨rfl, .inr ⟨w.heap.size, 0, #[], rfl, Nat.le_refl _, heap_alloc_new w _, Nat.le_refl _, by unfold maxLen; omega, rfl, rfl⟩⟩
theorem made_empty (w : World) : Made w (w.alloc (.cells #[] 5)) (.slice (some ⟨w.heap.size, 0, none⟩) (0 : Nat) 0) [] := ⟨own_empty w, (Below.refl _ _).alloc (Nat.le_refl _) _⟩
theorem mine {w : World} {ok : Nat → Prop} {A : Option Addr} {n c : Nat} {b : Str} (hs : Spell w ok A n c b) (hok : ∀ g, ok g → g < w.heap.size) (hl : n ≤ 10000) :
    ∃ A2 c2 w2, (Builtin.append_ #[22, 22] 22 #[.slice (some ⟨w.heap.size, 0, none⟩) 0 0, .slice A n c]).run Try.prog (w.alloc (.cells #[] 5)) = .ok (.slice A2 n c2) w2 ∧ Made w w2 (.slice A2 n c2) b := by
  have h1 := hs.below ((Below.refl w.heap.size w).alloc (Nat.le_refl _) (.cells #[] 5)) hok
  obtain ⟨A2, c2, w2, happ, hmd⟩ := (made_empty w).app (Below.refl _ _) h1 (by simp; omega)
  simp only [List.length_nil, Nat.zero_add, List.nil_append] at happ hmd
  exact ⟨A2, c2, w2, happ, hmd⟩
theorem made_spell {w wr : World} {A : Option Addr} {n c : Nat} {b : Str} (h : Made w wr (.slice A n c) b) (hn : b.length = n) : Spell wr (fun g => g < wr.heap.size) A n c b := by
  subst hn
  exact (own_spell h.own).weak fun g hg => hg.2.1


def True_ (w : World) (e : Ending) (w' : World) : Prop := e = .returned (.bool true) ∧ Below w.heap.size w w'
/-- what a call gives, behind a name -/
structure Bx (p : Prop) : Prop where
  out : p
end Go.Proofs.Ytimlcjdpnhhjdaa.sp
