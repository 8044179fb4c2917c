/-
  Given for the seat's laws: bytes as they lie in memory, append onto bytes of the call's own, texts as lists of bytes, and what a call gives that turns nothing of what was there. No condition.
-/
import Derived.Test.YtghdaengkgiekaaGreatDoorYMem
import Derived.Test.YtghdaengkgiekaaGreatDoorYSShelf2
import Derived.Test.YtghdaengkgiekaaGreatDoorYSPure
import Derived.WalkKit
import Derived.WalkSpells
import Derived.WalkLawsBesides
import Derived.Below
import Derived.Laws.AppendOwn
import Derived.Laws.OwnMore
import Derived.Laws.BytesArg
import Derived.Laws.IdiomStrings
import Derived.Deep.AppendLies
import Derived.Deep.QuietTactic
import Derived.Deep.CutBlock
import Derived.Deep.DeepCutAuto
import Derived.BigQuiet
import Derived.StillTailTactics
import Derived.RegionTactic
import Derived.Lib.Hide
import Derived.IntWalk
import Derived.Outline
import Derived.WalkMore
import Derived.Laws.BitsAllLaws
import Derived.OwnWalk
namespace Go.Proofs.YtghdaengkgiekaaGreatDoor.sx
open Go.RowKit mem
set_option linter.unusedVariables false

/-- e gives v, and nothing that was there has turned -/
def Gives (v : Value) (w : World) (e : Ending) (w' : World) : Prop := e = .returned v ∧ Below w.heap.size w w'
theorem gives_refl {v : Value} {w : World} : Gives v w (.returned v) w := ⟨rfl, Below.refl _ _⟩

theorem cell_lt {w : World} {p : Addr} {v : Value} (h : w.cell? p = some v) : p.block < w.heap.size := World.block_lt_of_cell? _ _ h
theorem cell_kept {w w' : World} {p : Addr} {v : Value} (h : w.cell? p = some v) (hb : Below w.heap.size w w') : w'.cell? p = some v := (hb.cell (cell_lt h)).trans h

/-- bytes as a string -/
def S (l : Str) : ByteArray := ⟨l.toArray⟩
@[simp] theorem S_list (l : Str) : (S l).data.toList = l := by unfold S; simp
theorem S_data (s : ByteArray) : S s.data.toList = s := by unfold S; simp
theorem S_size (l : Str) : (S l).size = l.length := by show (S l).data.size = _; unfold S; simp
theorem S_inj {a b : Str} (h : S a = S b) : a = b := by rw [← S_list a, h, S_list]
theorem S_eq_iff {a b : Str} : S a = S b ↔ a = b := ⟨S_inj, fun h => by rw [h]⟩
theorem S_append (a b : Str) : S a ++ S b = S (a ++ b) := by
  apply ByteArray.ext
  apply Array.toList_inj.1
  simp [S]
theorem list_len (s : ByteArray) : s.data.toList.length = s.size := by simp
theorem byte_at {s : ByteArray} {k : Nat} (h : k < s.size) : s.data.toList[k]? = some s[k] := by
  rw [Array.getElem?_toList, Array.getElem?_eq_getElem (show k < s.data.size from h)]
  rfl
theorem list_nil {s : ByteArray} : s.data.toList = [] ↔ s.size = 0 := by
  rw [← List.length_eq_zero_iff, list_len]
theorem empty_iff (s : ByteArray) : s.toList.isEmpty = decide (s.data.toList = []) := by
  rw [Lib.toList_data]
  cases s.data.toList <;> simp

def B8 (xs : List Int) : List Value := xs.map (Value.int .u8)
theorem B8_length (xs : List Int) : (B8 xs).length = xs.length := by simp [B8]

/-- a slice's bytes as they lie in memory, in a block that ok lets in -/
def BytesAt (w : World) (ok : Nat → Prop) (A : Option Addr) (bs : List Int) : Prop :=
  0 < bs.length → ∃ g off, A = some ⟨g, off, none⟩ ∧ ok g ∧ ∀ (j : Nat) (z : Int), bs[j]? = some z → w.cell? ⟨g, off + j, none⟩ = some (.int .u8 z)

/-- where s[k:] lies, of a slice of capacity c -/
def cutA (A : Option Addr) (c k : Nat) : Option Addr := if c = k then A else A.map (·.add k)

section
variable {w w' : World} {ok ok' : Nat → Prop} {A : Option Addr} {bs : List Int}
theorem BytesAt.nil : BytesAt w ok A [] := fun h => absurd h (by simp)
theorem BytesAt.keep (h : BytesAt w ok A bs) (hk : ∀ g, ok g → w'.heap[g]? = w.heap[g]?) : BytesAt w' ok A bs := fun hp => by
  obtain ⟨g, off, e, ho, hc⟩ := h hp
  exact ⟨g, off, e, ho, fun j z hz => (World.cell?_of_block (hk g ho)).trans (hc j z hz)⟩
theorem BytesAt.weak (h : BytesAt w ok A bs) (hk : ∀ g, ok g → ok' g) : BytesAt w ok' A bs := fun hp => by
  obtain ⟨g, off, e, ho, hc⟩ := h hp
  exact ⟨g, off, e, hk g ho, hc⟩
theorem BytesAt.take (h : BytesAt w ok A bs) (n : Nat) : BytesAt w ok A (bs.take n) := fun hp => by
  obtain ⟨g, off, e, ho, hc⟩ := h (by simp at hp; omega)
  refine ⟨g, off, e, ho, fun j z hz => hc j z ?_⟩
  rw [List.getElem?_take] at hz
  split at hz
  · exact hz
  · cases hz
theorem BytesAt.drop (h : BytesAt w ok A bs) (n : Nat) : BytesAt w ok (A.map (·.add n)) (bs.drop n) := fun hp => by
  obtain ⟨g, off, e, ho, hc⟩ := h (by simp at hp; omega)
  subst e
  refine ⟨g, off + n, ?_, ho, fun j z hz => ?_⟩
  · by_cases hn : n = 0 <;> simp [Addr.add, hn]
  · rw [List.getElem?_drop] at hz
    have := hc (n + j) z hz
    rwa [← Nat.add_assoc] at this
theorem BytesAt.cut (h : BytesAt w ok A bs) {c : Nat} (hc : bs.length ≤ c) (k : Nat) : BytesAt w ok (cutA A c k) (bs.drop k) := by
  unfold cutA
  split
  · rw [List.drop_eq_nil_of_le (by omega)]
    exact .nil
  · exact h.drop k
end

/-- A SLICE OF BYTES -/
structure Src (w : World) (ok : Nat → Prop) (A : Option Addr) (l c : Nat) (bs : List Int) : Prop where
  len : bs.length = l
  cap : l ≤ c
  non : A = none → c = 0
  max : c ≤ maxLen
  rng : ∀ x ∈ bs, 0 ≤ x ∧ x < 256
  lies : BytesAt w ok A bs

section
variable {w w' : World} {ok ok' : Nat → Prop} {A : Option Addr} {l c : Nat} {bs : List Int}
theorem Src.keep (h : Src w ok A l c bs) (hk : ∀ g, ok g → w'.heap[g]? = w.heap[g]?) : Src w' ok A l c bs := ⟨h.len, h.cap, h.non, h.max, h.rng, h.lies.keep hk⟩
theorem Src.weak (h : Src w ok A l c bs) (hk : ∀ g, ok g → ok' g) : Src w ok' A l c bs := ⟨h.len, h.cap, h.non, h.max, h.rng, h.lies.weak hk⟩
theorem Src.below {B : Nat} (h : Src w ok A l c bs) (hb : Below B w w') (hg : ∀ g, ok g → g < B) : Src w' ok A l c bs := h.keep fun g hk => hb.block g (hg g hk)
theorem Src.still (h : Src w ok A l c bs) (hs : Still w w') : Src w' ok A l c bs := h.keep fun g _ => by rw [hs.heap]
theorem Src.nil (w : World) (ok : Nat → Prop) : Src w ok none 0 0 [] := ⟨rfl, Nat.le_refl _, fun _ => rfl, by unfold maxLen; omega, by simp, .nil⟩
theorem Src.cut (h : Src w ok A l c bs) (k n : Nat) (hk : k + n ≤ l) : Src w ok (cutA A c k) n (c - k) ((bs.drop k).take n) := by
  refine ⟨by have := h.len; simp; omega, by have := h.cap; omega, fun e => ?_, by have := h.max; omega, fun x hx => h.rng x (List.mem_of_mem_drop (List.mem_of_mem_take hx)), (h.lies.cut (by have := h.cap; have := h.len; omega) k).take n⟩
  unfold cutA at e
  split at e
  · omega
  · rw [h.non (by simpa using e), Nat.zero_sub]
theorem Src.bytesIn (h : Src w ok A l c bs) (hl : 0 < l) : ∃ g off, A = some ⟨g, off, none⟩ ∧ ∀ i, i < l → w.cell? ⟨g, off + i, none⟩ = some (.int .u8 (bs.getD i 0)) := by
  obtain ⟨g, off, e, _, hc⟩ := h.lies (by rw [h.len]; exact hl)
  refine ⟨g, off, e, fun i hi => ?_⟩
  have hi' : i < bs.length := by rw [h.len]; exact hi
  rw [hc i bs[i] (List.getElem?_eq_getElem hi')]
  simp [List.getD, hi']
theorem Src.add_cell (h : Src w ok A l c bs) {a : Addr} (ha : A = some a) : ∀ i, i < l → w.cell? (a.add i) = some (.int .u8 (bs.getD i 0)) := fun i hi => by
  obtain ⟨g, off, e, hc⟩ := h.bytesIn (by omega)
  rw [ha] at e
  cases e
  rw [← hc i hi]
  by_cases h0 : i = 0 <;> simp [Addr.add, h0]
end

section
variable {w w' : World} {B : Nat} {A : Option Addr} {n c : Nat} {bs : List Int}
/-- a row of bytes of the call's own is a slice of bytes -/
theorem src_of_own (h : w.ownsRow B 5 1 (.slice A n c) n (B8 bs)) (hr : ∀ x ∈ bs, 0 ≤ x ∧ x < 256) : Src w (fun g => B ≤ g ∧ g < w.heap.size ∧ (Value.slice A n c).ownBlock = some g) A n c bs := by
  have hl : bs.length = n := by
    have := h.1
    rw [B8_length] at this
    omega
  rcases h.2 with ⟨hv, hn⟩ | ⟨g, cap, cur, hv, hb, hh, hnc, hm, hs, ht⟩
  · simp only [Value.slice.injEq] at hv
    obtain ⟨rfl, _, rfl⟩ := hv
    exact ⟨hl, by omega, fun _ => rfl, by unfold maxLen; omega, hr, fun hp => absurd hp (by omega)⟩
  · simp only [Value.slice.injEq] at hv
    obtain ⟨rfl, _, rfl⟩ := hv
    refine ⟨hl, hnc, fun e => (by cases e), hm, hr, fun hp => ⟨g, 0, rfl, ⟨hb, (Array.getElem?_eq_some_iff.1 hh).1, rfl⟩, fun j z hz => ?_⟩⟩
    have hz' : (B8 bs)[j]? = some (.int .u8 z) := by simp [B8, hz]
    rw [← ht, Nat.mul_one, List.getElem?_take] at hz'
    split at hz'
    · simp [World.cell?, hh, Nat.zero_add]
      simpa using hz'
    · cases hz'
theorem own_form {v : Value} {e : TypeId} {k : Nat} {xs : List Value} (h : w.ownsRow B e 1 v k xs) : ∃ A c, v = .slice A k c := by
  rcases h.2 with ⟨rfl, rfl⟩ | ⟨g', cap, cur, hv, _⟩
  · exact ⟨none, 0, rfl⟩
  · exact ⟨_, _, hv⟩
theorem own_same {v : Value} {e : TypeId} {k : Nat} {xs : List Value} (h : w.ownsRow B e 1 v k xs) (hk : ∀ g, v.ownBlock = some g → w'.heap[g]? = w.heap[g]?) : w'.ownsRow B e 1 v k xs := by
  refine ⟨h.1, ?_⟩
  rcases h.2 with h0 | ⟨g, cap, cur, hv, hb, hh, rest⟩
  · exact .inl h0
  · exact .inr ⟨g, cap, cur, hv, hb, by rw [hk g (by rw [hv]; rfl)]; exact hh, rest⟩
theorem own_lt {v : Value} {e : TypeId} {k : Nat} {xs : List Value} (h : w.ownsRow B e 1 v k xs) {g : Nat} (hg : v.ownBlock = some g) : B ≤ g ∧ g < w.heap.size := by
  rcases h.2 with ⟨rfl, _⟩ | ⟨g', cap, cur, rfl, hb, hh, _⟩
  · simp [Value.ownBlock] at hg
  · have : g' = g := by simpa [Value.ownBlock] using hg
    subst this
    exact ⟨hb, (Array.getElem?_eq_some_iff.1 hh).1⟩
theorem own_ne {g t : Nat} {e : TypeId} {cs : Array Value} {v : Value} {k : Nat} {xs : List Value} (h : w.ownsRow B e 1 v k xs) (hl : Lies w g t cs) (hne : e ≠ t) : v.ownBlock ≠ some g := by
  rcases h.2 with ⟨rfl, _⟩ | ⟨g', cap, cur, rfl, _, hh, _⟩
  · simp [Value.ownBlock]
  · intro e'
    have : g' = g := by simpa [Value.ownBlock] using e'
    subst this
    exact Lies.apart (t := e) (t' := t) (show Lies w g' e cur from hh) hl hne rfl
end

theorem B8_one (zs : List Int) : ∀ v ∈ B8 zs, v.oneCell' = true := by
  intro v hv
  obtain ⟨z, _, rfl⟩ := List.mem_map.1 hv
  rfl

/-- append, and where the row lies behind it -/
theorem append_at {w : World} {base : Nat} {v : Value} {n : Nat} {xs ys : List Int} {ok : Nat → Prop} {A : Option Addr} {m c : Nat} (hown : w.ownsRow base 5 1 v n (B8 xs)) (hs : Src w ok A m c ys) (h1 : n + m ≤ 1000000) (hb : base ≤ w.heap.size) :
    ∃ A' c' w', (Builtin.append_ #[29, 29] 29 #[v, .slice A m c]).run Tryz.prog w = .ok (.slice A' (n + m) c') w' ∧ w'.ownsRow base 5 1 (.slice A' (n + m) c') (n + m) (B8 (xs ++ ys)) ∧ w.grownBy w' v.ownBlock ∧
      ∀ g, (Value.slice A' (n + m) c').ownBlock = some g → v.ownBlock = some g ∨ w.heap.size ≤ g := by
  obtain ⟨i0, hinf, hz0, hz1, hz2⟩ := info_parts (show (Tryz.prog.info? 5).map (fun i => (i.zero, i.size, i.bytes)) = some (some (.int .u8 0), 1, 1) by kernel_rfl)
  cases A with
  | none =>
    have hc := hs.non rfl
    have hm : m = 0 := by have := hs.cap; omega
    subst hc hm
    have hy : ys = [] := List.eq_nil_of_length_eq_zero hs.len
    subst hy
    have hr := run_append_owned_none (P := Tryz.prog) w base 29 29 5 i0 1 Tryz.underlying29 hinf v n (B8 xs) hown
    obtain ⟨A', c', rfl⟩ := own_form hown
    exact ⟨A', c', w, hr, by simpa using hown, World.grownBy.refl w _, fun g e => .inl e⟩
  | some a =>
    obtain ⟨v', w', hr, ho, hg, _, hat⟩ := run_append_own_at (P := Tryz.prog) w base 29 29 5 i0 (.int .u8 0) 1 1 Tryz.underlying29 hinf hz0 hz1 hz2 rfl (by decide) v n (B8 xs) hown a m c (B8 ys) (by rw [B8_length, hs.len]; omega)
      (fun j u hu => by
        have hj : j < m := by
          have := (List.getElem?_eq_some_iff.1 hu).1
          rw [B8_length, hs.len] at this
          exact this
        rw [hs.add_cell rfl j hj, ← hu]
        simp [B8, List.getD, hs.len, hj]) (B8_one _) (by unfold maxLen; omega) (by omega) hb
    obtain ⟨A', c', rfl⟩ := own_form ho
    have e : B8 (xs ++ ys) = B8 xs ++ B8 ys := by simp [B8]
    rw [e]
    refine ⟨A', c', w', hr, ho, hg, fun g e' => ?_⟩
    rcases hat with h | h
    · exact .inl (h.symm.trans e')
    · rw [h] at e'
      exact .inr (Nat.le_of_eq (Option.some.inj e'))

theorem wpList_append_eq {P : Program} {w w' : World} {ops : Array Oper} {rest : List Oper} {o : Oper} {a : Act} {Q : Exit → Act → World → Prop} {v u v' : Value} (hg : o.guard = none) (s x : Operand)
    (hop : o.op = Op.call { callee := Callee.builtin Builtin.append, args := #[s, x], argTypes := #[29, 29] }) (hty : o.type = 29) (hs : a.eval s = v) (hx : a.eval x = u)
    (hrun : (Builtin.append_ #[29, 29] 29 #[v, u]).run P w = .ok v' w') (h : wpList P ops Q rest (a.put o.dst v') w') : wpList P ops Q (o :: rest) a w := by
  refine wpList_plain hg fun K hK' => ?_
  unfold Oper.wp
  simp [execOp, hop, hty, resolve, invoke, builtin, hs, hx, hrun, Result.andThen]
  exact hK' _ _ h

theorem own_none (w : World) (B : Nat) (t : TypeId) : w.ownsRow B t 1 (.slice none 0 0) 0 [] := ⟨rfl, .inl ⟨rfl, rfl⟩⟩

/-- the byte at place i of a slice of bytes -/
theorem Src.cell {w : World} {ok : Nat → Prop} {A : Option Addr} {l c : Nat} {bs : List Int} (h : Src w ok A l c bs) {i : Nat} (hi : i < l) : ∃ g off x, A = some ⟨g, off, none⟩ ∧ ok g ∧ bs[i]? = some x ∧ w.cell? ⟨g, off + i, none⟩ = some (.int .u8 x) := by
  obtain ⟨g, off, e, ho, hc⟩ := h.lies (by rw [h.len]; omega)
  have hi' : i < bs.length := by rw [h.len]; exact hi
  exact ⟨g, off, bs[i], e, ho, List.getElem?_eq_getElem hi', hc i _ (List.getElem?_eq_getElem hi')⟩

theorem cut_l (W : World) (A : Option Addr) (n c k : Nat) (h : k ≤ n) :
    (Instr.slice 29 (.slice A n c) (some (.int .i64 (k : Int))) none none).run Tryz.prog W = .ok (.slice (cutA A c k) (n - k) (c - k)) W := by
  obtain ⟨i0, hi, hz0, hz1, hz2⟩ := info_parts (show (Tryz.prog.info? 5).map (fun i => (i.zero, i.size, i.bytes)) = some (some (.int .u8 0), 1, 1) by kernel_rfl)
  rw [run_slice_l W 29 _ n c (by kernel_rfl) .i64 _ (by omega) (by omega)]
  have he : Tryz.prog.elem 29 = 5 := by kernel_rfl
  rw [he]
  have hs : (sizeOf 5).run Tryz.prog W = .ok 1 W := by simp [sizeOf, typeInfo, hi, hz1]
  rw [hs]
  simp only [Result.andThen, sliced, Int.toNat_natCast, Nat.mul_one]
  rfl

/-- bytes as numbers -/
def ints (l : Str) : List Int := l.map fun x => (x.toNat : Int)
theorem ints_len (l : Str) : (ints l).length = l.length := by simp [ints]
theorem ints_rng (l : Str) : ∀ x ∈ ints l, 0 ≤ x ∧ x < 256 := by
  intro x hx
  obtain ⟨y, _, rfl⟩ := List.mem_map.1 hx
  have := y.toNat_lt
  omega
theorem ints_app (a b : Str) : ints (a ++ b) = ints a ++ ints b := by simp [ints]
theorem ints_nums (l : Str) : strOfNums (ints l) = S l := by
  unfold strOfNums ints S
  rw [List.map_map]
  have : (l.map ((fun n : Int => UInt8.ofNat n.toNat) ∘ fun x : UInt8 => (x.toNat : Int))) = l := by
    conv => rhs; rw [← List.map_id l]
    exact List.map_congr_left fun x _ => by simp
  rw [this]
theorem ints_of {xs : List Int} (h : ∀ x ∈ xs, 0 ≤ x ∧ x < 256) : ∃ l : Str, xs = ints l := by
  refine ⟨xs.map fun n => UInt8.ofNat n.toNat, ?_⟩
  unfold ints
  rw [List.map_map]
  conv => lhs; rw [← List.map_id xs]
  refine List.map_congr_left fun x hx => ?_
  obtain ⟨h0, h1⟩ := h x hx
  simp
  omega
theorem B8_cells (l : Str) : B8 (ints l) = Lib.byteCells l := by simp [B8, ints, Lib.byteCells]
theorem ints_get {l : Str} {i : Nat} {x : UInt8} (h : l[i]? = some x) : (ints l)[i]? = some (x.toNat : Int) := by simp [ints, h]

/-- a slice of bytes that spells l -/
abbrev Spell (w : World) (ok : Nat → Prop) (A : Option Addr) (n c : Nat) (l : Str) : Prop := Src w ok A n c (ints l)
theorem spell_len {w : World} {ok : Nat → Prop} {A : Option Addr} {n c : Nat} {l : Str} (h : Spell w ok A n c l) : l.length = n := by have := h.len; rwa [ints_len] at this
theorem spell_str {w : World} {ok : Nat → Prop} {A : Option Addr} {n c : Nat} {l : Str} (h : Spell w ok A n c l) : (convert 29 9 (.slice A n c)).run Tryz.prog w = .ok (.string (S l)) w := by
  rcases Nat.eq_zero_or_pos n with h0 | h0
  · have hl := spell_len h
    have : l = [] := List.eq_nil_of_length_eq_zero (by omega)
    subst h0 this
    rw [run_convert_bytes_string w 29 9 5 _ 0 c Tryz.underlying29 Tryz.underlying5 Tryz.underlying9]
    cases A <;> simp [Conv.bytesToString, loadCells]
    all_goals rfl
  · obtain ⟨g, off, rfl, hc⟩ := h.bytesIn (by omega)
    rw [← ints_nums]
    exact run_convert_bytes_arg (P := Tryz.prog) w 29 5 Tryz.underlying29 Tryz.underlying5 g off n c (ints l) h.len (fun i hi => hc i hi) 9 Tryz.underlying9
theorem spell_cell {w : World} {ok : Nat → Prop} {A : Option Addr} {n c : Nat} {l : Str} (h : Spell w ok A n c l) {i : Nat} {x : UInt8} (hx : l[i]? = some x) : ∃ g off, A = some ⟨g, off, none⟩ ∧ ok g ∧ w.cell? ⟨g, off + i, none⟩ = some (.int .u8 (x.toNat : Int)) := by
  have hi : i < l.length := (List.getElem?_eq_some_iff.1 hx).1
  obtain ⟨g, off, e, ho, hc⟩ := h.lies (by rw [ints_len]; omega)
  exact ⟨g, off, e, ho, hc i _ (ints_get hx)⟩
/-- bytes of the call's own that spell l -/
abbrev Own (w : World) (B : Nat) (v : Value) (l : Str) : Prop := w.ownsRow B 5 1 v l.length (B8 (ints l))
theorem own_spell {w : World} {B : Nat} {A : Option Addr} {n c : Nat} {l : Str} (h : w.ownsRow B 5 1 (.slice A n c) n (B8 (ints l))) : Spell w (fun g => B ≤ g ∧ g < w.heap.size ∧ (Value.slice A n c).ownBlock = some g) A n c l := src_of_own h (ints_rng l)
end Go.Proofs.YtghdaengkgiekaaGreatDoor.sx

/-
  Given for the seat's laws: the letter of a number, the number of a letter, the padding taken off. No condition but those of the theorems.
-/
namespace Go.Proofs.YtghdaengkgiekaaGreatDoor.sx
open Go.RowKit mem
set_option linter.unusedVariables false

/-- the alphabet as a text of the program -/
abbrev AB : ByteArray := ⟨#[65, 66, 67, 68, 69, 70, 71, 72, 73, 74, 75, 76, 77, 78, 79, 80, 81, 82, 83, 84, 85, 86, 87, 88, 89, 90, 97, 98, 99, 100, 101, 102, 103, 104, 105, 106, 107, 108, 109, 110, 111, 112, 113, 114, 115, 116, 117, 118, 119, 120, 121, 122, 48, 49, 50, 51, 52, 53, 54, 55, 56, 57, 43, 47]⟩
theorem ab_list : AB.data.toList = alpha := rfl
theorem ab_at (n : Nat) (hn : n < 64) : AB[n]'(by show n < 64; exact hn) = lt n := by
  have h : ∀ k : Fin 64, AB[k.1]'(by show k.1 < 64; exact k.2) = lt k.1 := by decide +kernel
  exact h ⟨n, hn⟩
theorem letter_i (W : World) (n : Nat) (hn : n < 64) : (Instr.index 9 (.string AB) (.int .i64 (n : Int))).run Tryz.prog W = .ok (.int .u8 ((lt n).toNat : Int)) W := by
  rw [run_index_string (P := Tryz.prog) W 9 _ .i64 (n : Int) Tryz.underlying9, dif_pos ⟨by omega, by show (n : Int) < 64; omega⟩]
  have := ab_at n hn
  simp only [Int.toNat_natCast]
  rw [this]
theorem letter_u (W : World) (n : Nat) (hn : n < 64) : (Instr.index 9 (.string AB) (.int .u64 (n : Int))).run Tryz.prog W = .ok (.int .u8 ((lt n).toNat : Int)) W := by
  rw [run_index_string (P := Tryz.prog) W 9 _ .u64 (n : Int) Tryz.underlying9, dif_pos ⟨by omega, by show (n : Int) < 64; omega⟩]
  have := ab_at n hn
  simp only [Int.toNat_natCast]
  rw [this]

theorem letter_any (n : Nat) (hn : n < 64) (w : World) : Calls Tryz.prog 48 #[.int .i64 (n : Int)] w fun e w' => e = .returned (.int .u8 ((lt n).toNat : Int)) ∧ w' = w := by
  have h := fun W => letter_i W n hn
  go_enter Tryz.func48, Tryz.ntmps48
  go_wp2
  go_ret
  exact ⟨rfl, rfl⟩

theorem index_any (c : UInt8) (w : World) : Calls Tryz.prog 72 #[.string AB, .int .u8 (c.toNat : Int)] w fun e w' => e = .returned (.int .i64 (vl c)) ∧ w' = w := by
  have h := Tryz.strings_IndexByte AB (c.toNat : Int) w
  have e : ((c.toNat : Int).toNat).toUInt8 = c := by simp
  rw [e] at h
  exact h

theorem vl_step {c : UInt8} {n : Nat} (hn : n < 64) (h : ∀ k : Nat, k < n → vl c ≠ (k : Int)) : lt n = c ↔ vl c = (n : Int) := by
  constructor
  · rintro rfl
    exact vl_lt hn
  · intro e
    obtain ⟨m, hm, e1, e2⟩ := vl_some (c := c) (by omega)
    have : m = n := by omega
    rw [← this]; exact e2

theorem trim_any (l : Str) (hl : l.length ≤ 1000000) (w : World) : Calls Tryz.prog 133 #[.string (S l), .string ⟨#[61]⟩] w fun e w' => e = .returned (.string (S (trim l))) ∧ w' = w := by
  have h := Tryz.strings_TrimSuffix (S l) ⟨#[61]⟩ w (by rw [S_size]; omega)
  rw [S_list] at h
  exact h

set_option maxHeartbeats 400000 in
theorem strip_any (l : Str) (hl : l.length ≤ 1000000) (w : World) : Calls Tryz.prog 111 #[.string (S l)] w fun e w' => e = .returned (.string (S (strip l))) ∧ w' = w := by
  have h1 : (trim l).length ≤ l.length := by
    rcases trim_cases l with h | h
    · rw [h]; exact Nat.le_refl _
    · have := congrArg List.length h; simp at this; omega
  have HA := Lib.hid (trim_any l hl w)
  have HB := Lib.hid (trim_any (trim l) (by omega) w)
  clear h1
  go_enter Tryz.func111, Tryz.ntmps111
  go_wp2
  refine wp_loop_rounds 3 ?_
  rw [rounds_succ]
  go_wp2_with fail
  refine HA.out.mono ?_
  rintro e w' ⟨rfl, rfl⟩
  go_wp2_with fail
  rw [rounds_succ]
  go_wp2_with fail
  refine HB.out.mono ?_
  rintro e w' ⟨rfl, rfl⟩
  go_wp2_with fail
  rw [rounds_succ]
  go_wp2_with fail
  go_ret
  exact ⟨rfl, rfl⟩
end Go.Proofs.YtghdaengkgiekaaGreatDoor.sx

/-
  Given for the seat's laws: the contract of the program's Decode. No condition but those of the theorems.
-/
namespace Go.Proofs.YtghdaengkgiekaaGreatDoor.sx
open Go.RowKit mem
set_option linter.unusedVariables false

theorem lit_cell (w : World) (cs : Array Value) (t : TypeId) (fz : Nat × Nat) (j : Nat) : (w.alloc (.cells cs t fz)).cell? ⟨w.heap.size, j, none⟩ = cs[j]? := by
  have h : (w.alloc (.cells cs t fz)).heap[w.heap.size]? = some (.cells cs t fz) := heap_alloc_new w _
  unfold World.cell?
  rw [h]
  rfl
theorem src_lit (w : World) (xs : List Int) (fz : Nat × Nat) (hr : ∀ x ∈ xs, 0 ≤ x ∧ x < 256) (hl : xs.length ≤ 1000) : Src (w.alloc (.cells (B8 xs).toArray 5 fz)) (fun g => g = w.heap.size) (some ⟨w.heap.size, 0, none⟩) xs.length xs.length xs :=
  ⟨rfl, Nat.le_refl _, fun e => (by cases e), by unfold maxLen; omega, hr, fun _ => ⟨w.heap.size, 0, rfl, rfl, fun j z hz => by rw [Nat.zero_add, lit_cell]; simp [B8, hz]⟩⟩

/-- bytes of the call's own, and nothing that was there has turned -/
structure Made (w wr : World) (v : Value) (l : Str) : Prop where
  own : wr.ownsRow w.heap.size 5 1 v l.length (B8 (ints l))
  below : Below w.heap.size w wr
theorem Made.still {w wx wy : World} {v : Value} {l : Str} (h : Made w wx v l) (hs : Still wx wy) : Made w wy v l :=
  ⟨own_same h.own (fun g _ => by rw [hs.heap]), h.below.trans ((hs.below _).mono (Nat.le_refl _))⟩
theorem own_ge {w : World} {B : Nat} {v : Value} {k : Nat} {xs : List Value} (h : w.ownsRow B 5 1 v k xs) : ∀ g, v.ownBlock = some g → B ≤ g := fun g e => (own_lt h e).1
theorem Made.fresh {w wx wy : World} {v : Value} {l : Str} (h : Made w wx v l) (hb : Below wx.heap.size wx wy) : Made w wy v l :=
  ⟨own_same h.own (fun g hg => hb.block g (own_lt h.own hg).2), h.below.trans (hb.mono h.below.size)⟩
/-- one byte more -/
theorem Made.push {w w1 : World} {v : Value} {l : Str} (h : Made w w1 v l) (hl : l.length ≤ 100000) (x : UInt8) :
    ∃ A c w2, (Builtin.append_ #[29, 29] 29 #[v, .slice (some ⟨w1.heap.size, 0, none⟩) 1 1]).run Tryz.prog (w1.alloc (.cells #[.int .u8 (x.toNat : Int)] 5)) = .ok (.slice A (l.length + 1) c) w2 ∧
      Made w w2 (.slice A (l.length + 1) c) (l ++ [x]) := by
  have h3 := own_same (w' := w1.alloc (.cells #[.int .u8 (x.toNat : Int)] 5)) h.own (fun g hg => Below.heap_alloc _ _ _ (own_lt h.own hg).2)
  obtain ⟨A2, c2, w2, happ, ho, hg, _⟩ := append_at h3 (src_lit w1 [(x.toNat : Int)] (0, 0) (by have := x.toNat_lt; simp; omega) (by simp)) (by simp; omega) (by simp; have := h.below.size; omega)
  refine ⟨A2, c2, w2, happ, ?_, ((h.below.alloc h.below.size _).grown hg (h.below.alloc h.below.size _).size (own_ge h3))⟩
  rw [ints_app]
  have : (l ++ [x]).length = l.length + 1 := by simp
  rw [this]
  exact ho

/-! ### the numbers of a round -/
theorem wrap_shl6 {B : Nat} : IntKind.u64.wrap ((B : Int) * 64) = ((64 * (B % 288230376151711744) : Nat) : Int) := by
  rw [IntKind.wrap_u64]; omega
theorem or6 {q v : Nat} (hq : q < 288230376151711744) (hv : v < 64) : bits .or .u64 ((64 * q : Nat) : Int) (v : Int) = ((64 * q + v : Nat) : Int) := by
  rw [u64_or_nat _ _ (by omega) (by omega), show (64 * q : Nat) = 2 ^ 6 * q from rfl, Nat.two_pow_add_eq_or_of_lt (show v < 2 ^ 6 from hv)]
theorem byte_of {N : Nat} (h : N < 256) : ((UInt8.ofNat N).toNat : Int) = (N : Int) := by simp; omega

/-- what Decode gives of a text -/
def DecTo (s : Str) (w : World) (e : Ending) (w' : World) : Prop :=
  (∃ b A c, Is s (some b) ∧ e = .returned (.tuple #[.slice A b.length c, .int .i64 0]) ∧ Made w w' (.slice A b.length c) b) ∨ (Is s none ∧ e = .returned (.tuple #[.slice none 0 0, .int .i64 6]) ∧ Below w.heap.size w w')

/-- on the way: k letters are read -/
structure DI (w : World) (cs : Str) (k B h r : Nat) (acc : Str) (wr : World) (v : Value) : Prop where
  made : Made w wr v acc
  len : acc.length ≤ k
  bits : B % 2 ^ h = r
  big : B < 18446744073709551616
  step : dgo 0 0 cs = ahead acc (dgo h r (cs.drop k))

theorem DI.bad {w wr : World} {cs acc : Str} {k B h r : Nat} {v : Value} {c : UInt8} (d : DI w cs k B h r acc wr v) (hc : cs[k]? = some c) (hv : vl c = -1) : dgo 0 0 cs = none := by
  obtain ⟨hlt, e⟩ := List.getElem?_eq_some_iff.1 hc
  rw [d.step, List.drop_eq_getElem_cons hlt, e, dgo_bad (by omega)]
  rfl
theorem DI.more {w wr : World} {cs acc : Str} {k B r n : Nat} {v : Value} {c : UInt8} (d : DI w cs k B 0 r acc wr v) (hc : cs[k]? = some c) (hv : vl c = (n : Int)) (hn : n < 64) :
    DI w cs (k + 1) (64 * (B % 288230376151711744) + n) 6 n acc wr v := by
  obtain ⟨hlt, e⟩ := List.getElem?_eq_some_iff.1 hc
  have hr : r = 0 := by have := d.bits; omega
  refine ⟨d.made, by have := d.len; omega, by show _ % 64 = _; omega, by omega, ?_⟩
  rw [d.step, List.drop_eq_getElem_cons hlt, e, dgo_more hv (by omega), hr]
  simp
theorem DI.byte {w wr w2 : World} {cs acc : Str} {k B h r n : Nat} {v v2 : Value} {c : UInt8} (d : DI w cs k B h r acc wr v) (hc : cs[k]? = some c) (hv : vl c = (n : Int)) (hn : n < 64) (hh : h = 2 ∨ h = 4 ∨ h = 6)
    (hm : Made w w2 v2 (acc ++ [UInt8.ofNat ((64 * (B % 288230376151711744) + n) / 2 ^ (h - 2) % 256)])) : DI w cs (k + 1) (64 * (B % 288230376151711744) + n) (h - 2) ((r * 64 + n) % 2 ^ (h - 2)) (acc ++ [UInt8.ofNat ((64 * (B % 288230376151711744) + n) / 2 ^ (h - 2) % 256)]) w2 v2 := by
  obtain ⟨hlt, e⟩ := List.getElem?_eq_some_iff.1 hc
  have hb := d.bits
  have hbit : (64 * (B % 288230376151711744) + n) % 2 ^ (h - 2) = (r * 64 + n) % 2 ^ (h - 2) := by
    rcases hh with rfl | rfl | rfl
    · show _ % 1 = _ % 1; omega
    · show _ % 4 = _ % 4; rw [show (2 : Nat) ^ 4 = 16 from rfl] at hb; omega
    · show _ % 16 = _ % 16; rw [show (2 : Nat) ^ 6 = 64 from rfl] at hb; omega
  have hbyte : (64 * (B % 288230376151711744) + n) / 2 ^ (h - 2) % 256 = (r * 64 + n) / 2 ^ (h - 2) := by
    rcases hh with rfl | rfl | rfl
    · show _ / 1 % 256 = _ / 1; rw [show (2 : Nat) ^ 2 = 4 from rfl] at hb; omega
    · show _ / 4 % 256 = _ / 4; rw [show (2 : Nat) ^ 4 = 16 from rfl] at hb; omega
    · show _ / 16 % 256 = _ / 16; rw [show (2 : Nat) ^ 6 = 64 from rfl] at hb; omega
  refine ⟨hm, by have := d.len; simp; omega, hbit, by omega, ?_⟩
  rw [d.step, List.drop_eq_getElem_cons hlt, e, dgo_byte hv (by rcases hh with rfl | rfl | rfl <;> omega), ahead_one, hbyte]

theorem cs_at (cs : Str) (k : Nat) (c : UInt8) (h : cs[k]? = some c) (W : World) : (Instr.index 9 (.string (S cs)) (.int .i64 (k : Int))).run Tryz.prog W = .ok (.int .u8 (c.toNat : Int)) W := by
  obtain ⟨hlt, e⟩ := List.getElem?_eq_some_iff.1 h
  rw [run_index_string (P := Tryz.prog) W 9 _ .i64 (k : Int) Tryz.underlying9, dif_pos ⟨by omega, by rw [S_size]; omega⟩]
  simp only [Int.toNat_natCast]
  have : (S cs)[k]'(by rw [S_size]; exact hlt) = c := by
    have h1 := byte_at (s := S cs) (k := k) (by rw [S_size]; exact hlt)
    rw [S_list, h] at h1
    exact (Option.some.inj h1).symm
  rw [this]

set_option maxHeartbeats 4000000 in
set_option maxRecDepth 100000 in
theorem decode_any (s : Str) (hs : s.length ≤ 20000) (w : World) : Calls Tryz.prog 89 #[.string (S s)] w (DecTo s w) := by
  have hsz : (S s).size = s.length := S_size s
  by_cases h4 : s.length % 4 = 0
  · have hst := fun W => strip_any s (by omega) W
    have HST := Lib.hid hst
    have hcl := strip_len s
    have hcs : (S (strip s)).size = (strip s).length := S_size _
    have H4 := Lib.hid h4
    have h4i : ((s.length : Int) % 4 != 0) = false := by
      have : (s.length : Int) % 4 = 0 := by omega
      rw [this]; rfl
    obtain ⟨i0, hi, hz0, hz1, hz2⟩ := info_parts (show (Tryz.prog.info? 5).map (fun i => (i.zero, i.size, i.bytes)) = some (some (.int .u8 0), 1, 1) by kernel_rfl)
    generalize hn : (strip s).length = n at *
    have HN := Lib.hid hn
    clear hst h4 hn
    go_enter Tryz.func89, Tryz.ntmps89
    go_wp2_with fail
    refine (HST.out _).mono ?_
    rintro e w' ⟨rfl, rfl⟩
    go_wp2_with (at_make; refine wpList_make_own _ rfl _ _ 29 rfl w'.heap.size 5 i0 (.int .u8 0) 1 Tryz.underlying29 hi hz0 hz1 .i64 .i64 _ (n * 6 / 8) rfl rfl (by omega) (by rw [hz2]; omega) (by unfold maxLen; omega) (Nat.le_refl _) ?_; intro w0 hown0 hgrow0)
    have hm0 : Hid (DI w' (strip s) 0 0 0 0 [] w0 (.slice (some ⟨w'.heap.size, 0, none⟩) 0 (n * 6 / 8))) := ⟨⟨hown0, (Below.refl _ _).grown hgrow0 (Nat.le_refl _) (fun g e => by cases e)⟩, Nat.le_refl _, rfl, by omega, by rw [ahead_nil]; rfl⟩
    clear hown0 hgrow0
    go_loopw [5, 6, 7, 23] (fun s5 s6 s7 s23 wr => ∃ (k B h r : Nat) (acc : Str) (A : Option Addr) (c : Nat), k ≤ n ∧ (h = 0 ∨ h = 2 ∨ h = 4 ∨ h = 6) ∧ s5 = .slice A acc.length c ∧ s6 = .int .u64 (B : Int) ∧ s7 = .int .i64 (h : Int) ∧ s23 = .int .i64 (k : Int) ∧ Hid (DI w' (strip s) k B h r acc wr (.slice A acc.length c))) (fun _ _ _ s23 _ => n - (intOf s23).toNat)
    case atStart => exact ⟨0, 0, 0, 0, [], _, _, Nat.zero_le _, .inl rfl, rfl, rfl, rfl, rfl, hm0⟩
    case round =>
      clear hm0
      obtain ⟨k, B, h, r, acc, A, c, hk, hh, rfl, rfl, rfl, rfl, HD⟩ := hrel
      by_cases hlt : k < n
      · obtain ⟨ch, hch⟩ : ∃ ch, (strip s)[k]? = some ch := ⟨(strip s)[k]'(by rw [HN.out]; exact hlt), List.getElem?_eq_getElem _⟩
        have hix := fun W => cs_at (strip s) k ch hch W
        have hia := fun W => index_any ch W
        have HCH := Lib.hid hch
        clear hch
        by_cases hv : vl ch < 0
        · have hv1 := vl_none hv
          have HF := Lib.hid (is_none (HD.out.bad HCH.out hv1))
          rw [hv1] at hia
          have HIA := Lib.hid hia
          clear hia hv hv1
          go_wp2_with fail
          refine (HIA.out _).mono ?_
          rintro e w3 ⟨rfl, rfl⟩
          go_wp2_with fail
          go_ret2
          exact .inr ⟨HF.out, rfl, HD.out.made.below⟩
        · obtain ⟨m, hm, hvm, _⟩ := vl_some (c := ch) (by omega)
          rw [hvm] at hia
          have HIA := Lib.hid hia
          have HVM := Lib.hid hvm
          clear hia hv hvm
          have e1 := wrap_shl6 (B := B)
          have e2 := or6 (q := B % 288230376151711744) (v := m) (by omega) hm
          obtain ⟨Q, hQ⟩ : ∃ Q : Nat, Q = 64 * (B % 288230376151711744) := ⟨_, rfl⟩
          obtain ⟨M, hM⟩ : ∃ M : Nat, M = 64 * (B % 288230376151711744) + m := ⟨_, rfl⟩
          rw [← hQ] at e1 e2
          rw [← hQ] at hM
          rw [← hM] at e2
          have hMb : M < 18446744073709551616 := by omega
          have HM := Lib.hid (show M = 64 * (B % 288230376151711744) + m by rw [hM, hQ])
          clear hQ hM
          have hal := HD.out.len
          rcases hh with rfl | rfl | rfl | rfl
          · go_wp2_with fail
            refine (HIA.out _).mono ?_
            rintro e w3 ⟨rfl, rfl⟩
            go_wp2_with fail
            go_roundw
            case rel => exact ⟨k + 1, M, 6, m, acc, A, c, by omega, by omega, rfl, rfl, rfl, by go_num, Lib.hid (by rw [HM.out]; exact HD.out.more HCH.out HVM.out hm)⟩
            case measure => simp [intOf]; omega
          · obtain ⟨x, hx⟩ : ∃ x : UInt8, x = UInt8.ofNat (M / 2 ^ 0 % 256) := ⟨_, rfl⟩
            have e3 : IntKind.u8.wrap (M : Int) = (x.toNat : Int) := by rw [hx, byte_of (by omega), IntKind.wrap_u8]; omega
            obtain ⟨A2, c2, w2, happ, hmd⟩ := HD.out.made.push (by omega) x
            have HNX := Lib.hid (HD.out.byte (n := m) HCH.out HVM.out hm (.inl rfl) (w2 := w2) (v2 := .slice A2 (acc.length + 1) c2) (by rw [← HM.out, ← hx]; exact hmd))
            have HX := Lib.hid hx
            have HAp := Lib.hid happ
            clear hx happ hmd
            go_wp2_with fail
            refine (HIA.out _).mono ?_
            rintro e w3 ⟨rfl, rfl⟩
            go_wp2_with (at_builtin; refine wpList_append_eq rfl _ _ rfl rfl rfl rfl HAp.out ?_)
            go_roundw
            case rel => exact ⟨k + 1, M, 0, (r * 64 + m) % 2 ^ 0, acc ++ [x], A2, c2, by omega, by omega, by rw [List.length_append]; rfl, rfl, rfl, by go_num, Lib.hid (by have h := HNX.out; rw [← HM.out, ← HX.out] at h; rw [List.length_append]; exact h)⟩
            case measure => simp [intOf]; omega
          · obtain ⟨x, hx⟩ : ∃ x : UInt8, x = UInt8.ofNat (M / 2 ^ 2 % 256) := ⟨_, rfl⟩
            have e3 : IntKind.u8.wrap ((M : Int) / 4) = (x.toNat : Int) := by rw [hx, byte_of (by omega), IntKind.wrap_u8]; omega
            obtain ⟨A2, c2, w2, happ, hmd⟩ := HD.out.made.push (by omega) x
            have HNX := Lib.hid (HD.out.byte (n := m) HCH.out HVM.out hm (.inr (.inl rfl)) (w2 := w2) (v2 := .slice A2 (acc.length + 1) c2) (by rw [← HM.out, ← hx]; exact hmd))
            have HX := Lib.hid hx
            have HAp := Lib.hid happ
            clear hx happ hmd
            go_wp2_with fail
            refine (HIA.out _).mono ?_
            rintro e w3 ⟨rfl, rfl⟩
            go_wp2_with (at_builtin; refine wpList_append_eq rfl _ _ rfl rfl rfl rfl HAp.out ?_)
            go_roundw
            case rel => exact ⟨k + 1, M, 2, (r * 64 + m) % 2 ^ 2, acc ++ [x], A2, c2, by omega, by omega, by rw [List.length_append]; rfl, rfl, rfl, by go_num, Lib.hid (by have h := HNX.out; rw [← HM.out, ← HX.out] at h; rw [List.length_append]; exact h)⟩
            case measure => simp [intOf]; omega
          · obtain ⟨x, hx⟩ : ∃ x : UInt8, x = UInt8.ofNat (M / 2 ^ 4 % 256) := ⟨_, rfl⟩
            have e3 : IntKind.u8.wrap ((M : Int) / 16) = (x.toNat : Int) := by rw [hx, byte_of (by omega), IntKind.wrap_u8]; omega
            obtain ⟨A2, c2, w2, happ, hmd⟩ := HD.out.made.push (by omega) x
            have HNX := Lib.hid (HD.out.byte (n := m) HCH.out HVM.out hm (.inr (.inr rfl)) (w2 := w2) (v2 := .slice A2 (acc.length + 1) c2) (by rw [← HM.out, ← hx]; exact hmd))
            have HX := Lib.hid hx
            have HAp := Lib.hid happ
            clear hx happ hmd
            go_wp2_with fail
            refine (HIA.out _).mono ?_
            rintro e w3 ⟨rfl, rfl⟩
            go_wp2_with (at_builtin; refine wpList_append_eq rfl _ _ rfl rfl rfl rfl HAp.out ?_)
            go_roundw
            case rel => exact ⟨k + 1, M, 4, (r * 64 + m) % 2 ^ 4, acc ++ [x], A2, c2, by omega, by omega, by rw [List.length_append]; rfl, rfl, rfl, by go_num, Lib.hid (by have h := HNX.out; rw [← HM.out, ← HX.out] at h; rw [List.length_append]; exact h)⟩
            case measure => simp [intOf]; omega
      · have hk' : k = n := by omega
        have hst : dgo 0 0 (strip s) = some (r, acc) := by
          rw [HD.out.step, List.drop_eq_nil_of_le (by rw [HN.out]; omega)]
          simp [dgo, ahead]
        have hbit := HD.out.bits
        have hbig := HD.out.big
        by_cases hr : r = 0
        · subst hr
          have HF := Lib.hid (show Is s (some acc) from dgo_yes H4.out hst)
          clear hst
          rcases hh with rfl | rfl | rfl | rfl
          · have hb : ((B : Int) % 1 != 0) = false := by rw [show (B : Int) % 1 = 0 by omega]; rfl
            clear hbit
            go_wp2_with fail
            go_ret2
            exact .inl ⟨acc, A, c, HF.out, rfl, HD.out.made⟩
          · have hb : ((B : Int) % 4 != 0) = false := by rw [show (B : Int) % 4 = 0 by omega]; rfl
            clear hbit
            go_wp2_with fail
            go_ret2
            exact .inl ⟨acc, A, c, HF.out, rfl, HD.out.made⟩
          · have hb : ((B : Int) % 16 != 0) = false := by rw [show (B : Int) % 16 = 0 by omega]; rfl
            clear hbit
            go_wp2_with fail
            go_ret2
            exact .inl ⟨acc, A, c, HF.out, rfl, HD.out.made⟩
          · have hb : ((B : Int) % 64 != 0) = false := by rw [show (B : Int) % 64 = 0 by omega]; rfl
            clear hbit
            go_wp2_with fail
            go_ret2
            exact .inl ⟨acc, A, c, HF.out, rfl, HD.out.made⟩
        · have HF := Lib.hid (is_left hst hr)
          clear hst
          rcases hh with rfl | rfl | rfl | rfl
          · omega
          · have hb : ((B : Int) % 4 != 0) = true := by
              have : (B : Int) % 4 ≠ 0 := by omega
              simpa using this
            clear hbit
            go_wp2_with fail
            go_ret2
            exact .inr ⟨HF.out, rfl, HD.out.made.below⟩
          · have hb : ((B : Int) % 16 != 0) = true := by
              have : (B : Int) % 16 ≠ 0 := by omega
              simpa using this
            clear hbit
            go_wp2_with fail
            go_ret2
            exact .inr ⟨HF.out, rfl, HD.out.made.below⟩
          · have hb : ((B : Int) % 64 != 0) = true := by
              have : (B : Int) % 64 ≠ 0 := by omega
              simpa using this
            clear hbit
            go_wp2_with fail
            go_ret2
            exact .inr ⟨HF.out, rfl, HD.out.made.below⟩
  · have h4i : ((s.length : Int) % 4 != 0) = true := by
      have : (s.length : Int) % 4 ≠ 0 := by omega
      simpa using this
    have HF := Lib.hid (is_odd h4)
    clear h4
    go_enter Tryz.func89, Tryz.ntmps89
    go_wp2_with fail
    go_ret2
    exact .inr ⟨HF.out, rfl, Below.refl _ _⟩
end Go.Proofs.YtghdaengkgiekaaGreatDoor.sx
