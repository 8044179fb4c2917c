/-
  Given for the seat's laws: bytes as they lie in memory, a reader as it lies in memory, and the contracts of New, Left, At and next. No condition but those of the theorems.
-/
import Derived.Test.YtliajejgkinkjaaMem
import Derived.Test.YtliajejgkinkjaaShelf
import Derived.WalkKit
import Derived.WalkSpells
import Derived.WalkLawsBesides
import Derived.Below
import Derived.Laws.AppendOwn
import Derived.Deep.QuietTactic
import Derived.BigQuiet
import Derived.StillTailTactics
import Derived.RegionTactic
import Derived.Lib.Hide
import Derived.IntWalk
import Derived.Outline
namespace Go.Proofs.Ytliajejgkinkjaa.reader
open Go.RowKit mem
set_option linter.unusedVariables false

def B8 (xs : List Int) : List Value := xs.map (Value.int .u8)
theorem B8_length (xs : List Int) : (B8 xs).length = xs.length := by simp [B8]

/-- a slice's bytes as they lie in memory, in a block that ok lets in -/
def BytesAt (w : World) (ok : Nat → Prop) (A : Option Addr) (bs : List Int) : Prop :=
  0 < bs.length → ∃ g off, A = some ⟨g, off, none⟩ ∧ ok g ∧ ∀ (j : Nat) (z : Int), bs[j]? = some z → w.cell? ⟨g, off + j, none⟩ = some (.int .u8 z)

/-- where s[k:] lies, of a slice of capacity c -/
def cutA (A : Option Addr) (c k : Nat) : Option Addr := if c = k then A else A.map (·.add k)

section
variable {w w' : World} {ok ok' : Nat → Prop} {A : Option Addr} {bs : List Int}
theorem BytesAt.nil : BytesAt w ok A [] := fun h => absurd h (by simp)
theorem BytesAt.keep (h : BytesAt w ok A bs) (hk : ∀ g, ok g → w'.heap[g]? = w.heap[g]?) : BytesAt w' ok A bs := fun hp => by
  obtain ⟨g, off, e, ho, hc⟩ := h hp
  exact ⟨g, off, e, ho, fun j z hz => (World.cell?_of_block (hk g ho)).trans (hc j z hz)⟩
theorem BytesAt.weak (h : BytesAt w ok A bs) (hk : ∀ g, ok g → ok' g) : BytesAt w ok' A bs := fun hp => by
  obtain ⟨g, off, e, ho, hc⟩ := h hp
  exact ⟨g, off, e, hk g ho, hc⟩
theorem BytesAt.take (h : BytesAt w ok A bs) (n : Nat) : BytesAt w ok A (bs.take n) := fun hp => by
  obtain ⟨g, off, e, ho, hc⟩ := h (by simp at hp; omega)
  refine ⟨g, off, e, ho, fun j z hz => hc j z ?_⟩
  rw [List.getElem?_take] at hz
  split at hz
  · exact hz
  · cases hz
theorem BytesAt.drop (h : BytesAt w ok A bs) (n : Nat) : BytesAt w ok (A.map (·.add n)) (bs.drop n) := fun hp => by
  obtain ⟨g, off, e, ho, hc⟩ := h (by simp at hp; omega)
  subst e
  refine ⟨g, off + n, ?_, ho, fun j z hz => ?_⟩
  · by_cases hn : n = 0 <;> simp [Addr.add, hn]
  · rw [List.getElem?_drop] at hz
    have := hc (n + j) z hz
    rwa [← Nat.add_assoc] at this
theorem BytesAt.cut (h : BytesAt w ok A bs) {c : Nat} (hc : bs.length ≤ c) (k : Nat) : BytesAt w ok (cutA A c k) (bs.drop k) := by
  unfold cutA
  split
  · rw [List.drop_eq_nil_of_le (by omega)]
    exact .nil
  · exact h.drop k
end

/-- A SLICE OF BYTES -/
structure Src (w : World) (ok : Nat → Prop) (A : Option Addr) (l c : Nat) (bs : List Int) : Prop where
  len : bs.length = l
  cap : l ≤ c
  non : A = none → c = 0
  max : c ≤ maxLen
  rng : ∀ x ∈ bs, 0 ≤ x ∧ x < 256
  lies : BytesAt w ok A bs

section
variable {w w' : World} {ok ok' : Nat → Prop} {A : Option Addr} {l c : Nat} {bs : List Int}
theorem Src.keep (h : Src w ok A l c bs) (hk : ∀ g, ok g → w'.heap[g]? = w.heap[g]?) : Src w' ok A l c bs := ⟨h.len, h.cap, h.non, h.max, h.rng, h.lies.keep hk⟩
theorem Src.weak (h : Src w ok A l c bs) (hk : ∀ g, ok g → ok' g) : Src w ok' A l c bs := ⟨h.len, h.cap, h.non, h.max, h.rng, h.lies.weak hk⟩
theorem Src.below {B : Nat} (h : Src w ok A l c bs) (hb : Below B w w') (hg : ∀ g, ok g → g < B) : Src w' ok A l c bs := h.keep fun g hk => hb.block g (hg g hk)
theorem Src.still (h : Src w ok A l c bs) (hs : Still w w') : Src w' ok A l c bs := h.keep fun g _ => by rw [hs.heap]
theorem Src.nil (w : World) (ok : Nat → Prop) : Src w ok none 0 0 [] := ⟨rfl, Nat.le_refl _, fun _ => rfl, by unfold maxLen; omega, by simp, .nil⟩
theorem Src.cut (h : Src w ok A l c bs) (k n : Nat) (hk : k + n ≤ l) : Src w ok (cutA A c k) n (c - k) ((bs.drop k).take n) := by
  refine ⟨by have := h.len; simp; omega, by have := h.cap; omega, fun e => ?_, by have := h.max; omega, fun x hx => h.rng x (List.mem_of_mem_drop (List.mem_of_mem_take hx)), (h.lies.cut (by have := h.cap; have := h.len; omega) k).take n⟩
  unfold cutA at e
  split at e
  · omega
  · rw [h.non (by simpa using e), Nat.zero_sub]
theorem Src.bytesIn (h : Src w ok A l c bs) : Lib.BytesIn w A l bs := fun hl => by
  obtain ⟨g, off, e, _, hc⟩ := h.lies (by rw [h.len]; exact hl)
  refine ⟨g, off, e, fun i hi => ?_⟩
  have hi' : i < bs.length := by rw [h.len]; exact hi
  rw [hc i bs[i] (List.getElem?_eq_getElem hi')]
  simp [List.getD, hi']
theorem Src.add_cell (h : Src w ok A l c bs) {a : Addr} (ha : A = some a) : ∀ i, i < l → w.cell? (a.add i) = some (.int .u8 (bs.getD i 0)) := fun i hi => by
  obtain ⟨g, off, e, hc⟩ := h.bytesIn (by omega)
  rw [ha] at e
  cases e
  rw [← hc i hi]
  by_cases h0 : i = 0 <;> simp [Addr.add, h0]
end

section
variable {w w' : World} {B : Nat} {A : Option Addr} {n c : Nat} {bs : List Int}
/-- a row of bytes of the call's own is a slice of bytes -/
theorem src_of_own (h : w.ownsRow B 5 1 (.slice A n c) n (B8 bs)) (hr : ∀ x ∈ bs, 0 ≤ x ∧ x < 256) : Src w (fun g => B ≤ g ∧ g < w.heap.size ∧ (Value.slice A n c).ownBlock = some g) A n c bs := by
  have hl : bs.length = n := by
    have := h.1
    rw [B8_length] at this
    omega
  rcases h.2 with ⟨hv, hn⟩ | ⟨g, cap, cur, hv, hb, hh, hnc, hm, hs, ht⟩
  · simp only [Value.slice.injEq] at hv
    obtain ⟨rfl, _, rfl⟩ := hv
    exact ⟨hl, by omega, fun _ => rfl, by unfold maxLen; omega, hr, fun hp => absurd hp (by omega)⟩
  · simp only [Value.slice.injEq] at hv
    obtain ⟨rfl, _, rfl⟩ := hv
    refine ⟨hl, hnc, fun e => (by cases e), hm, hr, fun hp => ⟨g, 0, rfl, ⟨hb, (Array.getElem?_eq_some_iff.1 hh).1, rfl⟩, fun j z hz => ?_⟩⟩
    have hz' : (B8 bs)[j]? = some (.int .u8 z) := by simp [B8, hz]
    rw [← ht, Nat.mul_one, List.getElem?_take] at hz'
    split at hz'
    · simp [World.cell?, hh, Nat.zero_add]
      simpa using hz'
    · cases hz'
theorem own_form {v : Value} {e : TypeId} {k : Nat} {xs : List Value} (h : w.ownsRow B e 1 v k xs) : ∃ A c, v = .slice A k c := by
  rcases h.2 with ⟨rfl, rfl⟩ | ⟨g', cap, cur, hv, _⟩
  · exact ⟨none, 0, rfl⟩
  · exact ⟨_, _, hv⟩
theorem own_same {v : Value} {e : TypeId} {k : Nat} {xs : List Value} (h : w.ownsRow B e 1 v k xs) (hk : ∀ g, v.ownBlock = some g → w'.heap[g]? = w.heap[g]?) : w'.ownsRow B e 1 v k xs := by
  refine ⟨h.1, ?_⟩
  rcases h.2 with h0 | ⟨g, cap, cur, hv, hb, hh, rest⟩
  · exact .inl h0
  · exact .inr ⟨g, cap, cur, hv, hb, by rw [hk g (by rw [hv]; rfl)]; exact hh, rest⟩
theorem own_lt {v : Value} {e : TypeId} {k : Nat} {xs : List Value} (h : w.ownsRow B e 1 v k xs) {g : Nat} (hg : v.ownBlock = some g) : B ≤ g ∧ g < w.heap.size := by
  rcases h.2 with ⟨rfl, _⟩ | ⟨g', cap, cur, rfl, hb, hh, _⟩
  · simp [Value.ownBlock] at hg
  · have : g' = g := by simpa [Value.ownBlock] using hg
    subst this
    exact ⟨hb, (Array.getElem?_eq_some_iff.1 hh).1⟩
theorem own_ne {g t : Nat} {e : TypeId} {cs : Array Value} {v : Value} {k : Nat} {xs : List Value} (h : w.ownsRow B e 1 v k xs) (hl : Lies w g t cs) (hne : e ≠ t) : v.ownBlock ≠ some g := by
  rcases h.2 with ⟨rfl, _⟩ | ⟨g', cap, cur, rfl, _, hh, _⟩
  · simp [Value.ownBlock]
  · intro e'
    have : g' = g := by simpa [Value.ownBlock] using e'
    subst this
    exact Lies.apart (t := e) (t' := t) (show Lies w g' e cur from hh) hl hne rfl
end

/-- bytes.Clone of a slice of bytes: bytes of the call's own -/
theorem clone_src {w : World} {ok : Nat → Prop} {A : Option Addr} {l c : Nat} {bs : List Int} (h : Src w ok A l c bs) (hb : l ≤ 140737488355328) :
    Calls Try.prog 23 #[.slice A l c] w fun e w' => ∃ A' c', e = .returned (.slice A' l c') ∧ w'.ownsRow w.heap.size 5 1 (.slice A' l c') l (B8 bs) ∧ Below w.heap.size w w' := by
  cases A with
  | none =>
    have hc := h.non rfl
    have hl : l = 0 := by have := h.cap; omega
    subst hc hl
    have hbs : bs = [] := List.eq_nil_of_length_eq_zero h.len
    subst hbs
    refine (Try.bytes_Clone_nil 0 0 w).mono fun e w' ⟨he, hw⟩ => ?_
    subst hw
    exact ⟨none, 0, he, ⟨rfl, .inl ⟨rfl, rfl⟩⟩, Below.refl _ _⟩
  | some a =>
    refine (Try.bytes_Clone_at a l c bs w h.len hb (h.add_cell rfl)).mono fun e w' ⟨v', he, ho, _, hbel⟩ => ?_
    obtain ⟨A', c', rfl⟩ := own_form ho
    exact ⟨A', c', he, ho, hbel⟩

/-- internal/bytealg.MaxLen's cell holds some int -/
def Max (w : World) : Prop := ∃ m, w.cell? ⟨0, 0, none⟩ = some (.int .i64 m)
theorem Max.lt {w : World} (h : Max w) : 0 < w.heap.size := by
  obtain ⟨m, hm⟩ := h
  rcases Nat.eq_zero_or_pos w.heap.size with h0 | h0
  · simp [World.cell?, Array.getElem?_eq_none (show w.heap.size ≤ 0 by omega)] at hm
  · exact h0
theorem Max.keep {w w' : World} (h : Max w) (hk : w'.heap[0]? = w.heap[0]?) : Max w' := by
  obtain ⟨m, hm⟩ := h
  exact ⟨m, (World.cell?_of_block hk).trans hm⟩

/-- A READER, in block r: it reads xs, of which the first at have been read; of base B on. -/
structure Has (w : World) (B r : Nat) (A : Option Addr) (n c : Nat) (xs : List Int) (k : Nat) : Prop where
  head : Lies w r 54 #[.slice A n c, .int .i64 (k : Int)]
  own : w.ownsRow B 5 1 (.slice A n c) n (B8 xs)
  len : xs.length = n
  le : k ≤ n
  small : n ≤ 5000
  rng : ∀ x ∈ xs, 0 ≤ x ∧ x < 256
  base : 0 < B ∧ B ≤ r
  mx : Max w

section
variable {w w' : World} {B r : Nat} {A : Option Addr} {n c : Nat} {xs : List Int} {k : Nat}
theorem Has.src (h : Has w B r A n c xs k) : Src w (fun g => B ≤ g ∧ g < w.heap.size ∧ (Value.slice A n c).ownBlock = some g) A n c xs := src_of_own h.own h.rng
theorem Has.ne (h : Has w B r A n c xs k) : (Value.slice A n c).ownBlock ≠ some r := own_ne h.own h.head (by decide)
theorem Has.keep (h : Has w B r A n c xs k) (hr : w'.heap[r]? = w.heap[r]?) (hd : ∀ g, (Value.slice A n c).ownBlock = some g → w'.heap[g]? = w.heap[g]?) (h0 : w'.heap[0]? = w.heap[0]?) : Has w' B r A n c xs k :=
  ⟨h.head.of_same hr, own_same h.own hd, h.len, h.le, h.small, h.rng, h.base, h.mx.keep h0⟩
theorem Has.below {B' : Nat} (h : Has w B r A n c xs k) (hb : Below B' w w') (hB : w.heap.size ≤ B') : Has w' B r A n c xs k :=
  h.keep (hb.block _ (by have := h.head.lt; omega)) (fun g hg => hb.block _ (by have := (own_lt h.own hg).2; omega)) (hb.block _ (by have := h.mx.lt; omega))
theorem Has.still (h : Has w B r A n c xs k) (hs : Still w w') : Has w' B r A n c xs k := h.below (hs.below w.heap.size) (Nat.le_refl _)
theorem Has.move (h : Has w B r A n c xs k) (j : Nat) (hj : j ≤ n) : Has (w.setCell ⟨r, 1, none⟩ (.int .i64 (j : Int))) B r A n c xs j := by
  have hs := h.head.set 1 (.int .i64 (j : Int))
  refine ⟨by simpa using hs, own_same h.own (fun g hg => Below.heap_setCell _ _ _ _ (fun e => by subst e; exact h.ne hg)), h.len, hj, h.small, h.rng, h.base, h.mx.keep (Below.heap_setCell _ _ _ _ (fun e => by have := h.base; simp at e; omega))⟩
end

set_option maxHeartbeats 400000 in
theorem left_has {B r : Nat} {A : Option Addr} {n c : Nat} {xs : List Int} {k : Nat} (w : World) (h : Has w B r A n c xs k) :
    Calls Try.prog 17 #[.pointer (some ⟨r, 0, none⟩)] w fun e w' => e = .returned (.int .i64 ((n : Int) - (k : Int))) ∧ Still w w' := by
  have hk := h.le
  have hn := h.small
  have c0 := h.head.cell 0
  have c1 := h.head.cell 1
  clear h
  go_enter Try.func17, Try.ntmps17
  go_wp2
  go_quiet (fail)
  go_wp2
  go_ret
  exact ⟨rfl, ⟨_, rfl⟩⟩

theorem at_has {B r : Nat} {A : Option Addr} {n c : Nat} {xs : List Int} {k : Nat} (w : World) (h : Has w B r A n c xs k) :
    Calls Try.prog 16 #[.pointer (some ⟨r, 0, none⟩)] w fun e w' => e = .returned (.int .i64 (k : Int)) ∧ w = w' := by
  have c1 := h.head.cell 1
  clear h
  go_enter Try.func16, Try.ntmps16
  go_wp2
  go_ret
  exact ⟨rfl, rfl⟩

/-- what New returns -/
def News (xs : List Int) (w : World) (e : Ending) (w' : World) : Prop :=
  ∃ r A c, e = .returned (.pointer (some ⟨r, 0, none⟩)) ∧ Has w' w.heap.size r A xs.length c xs 0 ∧ Below w.heap.size w w'

set_option maxHeartbeats 400000 in
theorem new_has {w : World} {ok : Nat → Prop} {A : Option Addr} {l c : Nat} {bs : List Int} (h : Src w ok A l c bs) (hl : l ≤ 5000) (hm : Max w) :
    Calls Try.prog 13 #[.slice A l c] w (News bs w) := by
  have hlen := h.len
  have hc := clone_src h (by omega)
  have HC := Lib.hid hc
  have HR := Lib.hid h.rng
  have HM := Lib.hid hm
  have HL := Lib.hid hlen
  clear hc h hm hlen
  go_enter Try.func13, Try.ntmps13
  go_wp2_with fail
  refine HC.out.mono ?_
  rintro e w1 ⟨A', c', rfl, ho, hb⟩
  have HO := Lib.hid ho
  have HB := Lib.hid hb
  clear ho hb
  go_wp2
  go_ret
  have hs := HB.out.size
  have hnew := Lies.new w1 54 #[.slice A' l c', .int .i64 0]
  refine ⟨w1.heap.size, A', c', rfl, ?_, HB.out.alloc hs _⟩
  rw [HL.out]
  exact ⟨hnew, own_same HO.out (fun g hg => Below.heap_alloc _ _ _ (own_lt HO.out hg).2), HL.out, Nat.zero_le _, hl, HR.out, ⟨HM.out.lt, hs⟩,
    (HM.out.keep (HB.out.block 0 HM.out.lt)).keep (Below.heap_alloc _ _ _ (by have := HM.out.lt; omega))⟩

end Go.Proofs.Ytliajejgkinkjaa.reader
