/-
  Given for the seat's laws: bytes as they lie in memory, append onto bytes of the call's own, texts as lists of bytes, and what a call gives that turns nothing of what was there. No condition.
-/
import Derived.Test.YtghdaengkgiekaaGreatDoorYMem
import Derived.Test.YtghdaengkgiekaaGreatDoorYKPure
import Derived.WalkKit
import Derived.WalkSpells
import Derived.WalkLawsBesides
import Derived.Below
import Derived.Laws.AppendOwn
import Derived.Lib.BytesEntry
import Derived.Lib.LazyBuf
import Derived.Laws.StandIn
import Derived.Laws.OwnMore
import Derived.Laws.BytesArg
import Derived.Laws.IdiomStrings
import Derived.Deep.AppendLies
import Derived.Deep.QuietTactic
import Derived.Deep.CutBlock
import Derived.Deep.DeepCutAuto
import Derived.BigQuiet
import Derived.StillTailTactics
import Derived.RegionTactic
import Derived.Lib.Hide
import Derived.IntWalk
import Derived.Outline
import Derived.WalkMore
import Derived.Scope
import Derived.OwnWalk
import Derived.Test.YtghdaengkgiekaaGreatDoorYShelf
import Derived.Deep.RegionHeld3
import Derived.BigRegion
import Derived.Lib.ConvBytes
import Derived.Lib.AppendStr
namespace Go.Proofs.YtghdaengkgiekaaGreatDoor.hd
open Go.RowKit mem
set_option linter.unusedVariables false

/-- e gives v, and nothing that was there has turned -/
def Gives (v : Value) (w : World) (e : Ending) (w' : World) : Prop := e = .returned v ∧ Below w.heap.size w w'
theorem gives_refl {v : Value} {w : World} : Gives v w (.returned v) w := ⟨rfl, Below.refl _ _⟩

theorem cell_lt {w : World} {p : Addr} {v : Value} (h : w.cell? p = some v) : p.block < w.heap.size := World.block_lt_of_cell? _ _ h
theorem cell_kept {w w' : World} {p : Addr} {v : Value} (h : w.cell? p = some v) (hb : Below w.heap.size w w') : w'.cell? p = some v := (hb.cell (cell_lt h)).trans h

/-- bytes as a string -/
def S (l : Str) : ByteArray := ⟨l.toArray⟩
@[simp] theorem S_list (l : Str) : (S l).data.toList = l := by unfold S; simp
theorem S_data (s : ByteArray) : S s.data.toList = s := by unfold S; simp
theorem S_size (l : Str) : (S l).size = l.length := by show (S l).data.size = _; unfold S; simp
theorem S_inj {a b : Str} (h : S a = S b) : a = b := by rw [← S_list a, h, S_list]
theorem S_eq_iff {a b : Str} : S a = S b ↔ a = b := ⟨S_inj, fun h => by rw [h]⟩
theorem S_append (a b : Str) : S a ++ S b = S (a ++ b) := by
  apply ByteArray.ext
  apply Array.toList_inj.1
  simp [S]
theorem list_len (s : ByteArray) : s.data.toList.length = s.size := by simp
theorem byte_at {s : ByteArray} {k : Nat} (h : k < s.size) : s.data.toList[k]? = some s[k] := by
  rw [Array.getElem?_toList, Array.getElem?_eq_getElem (show k < s.data.size from h)]
  rfl
theorem list_nil {s : ByteArray} : s.data.toList = [] ↔ s.size = 0 := by
  rw [← List.length_eq_zero_iff, list_len]
theorem empty_iff (s : ByteArray) : s.toList.isEmpty = decide (s.data.toList = []) := by
  rw [Lib.toList_data]
  cases s.data.toList <;> simp

def B8 (xs : List Int) : List Value := xs.map (Value.int .u8)
theorem B8_length (xs : List Int) : (B8 xs).length = xs.length := by simp [B8]

/-- a slice's bytes as they lie in memory, in a block that ok lets in -/
def BytesAt (w : World) (ok : Nat → Prop) (A : Option Addr) (bs : List Int) : Prop :=
  0 < bs.length → ∃ g off, A = some ⟨g, off, none⟩ ∧ ok g ∧ ∀ (j : Nat) (z : Int), bs[j]? = some z → w.cell? ⟨g, off + j, none⟩ = some (.int .u8 z)

/-- where s[k:] lies, of a slice of capacity c -/
def cutA (A : Option Addr) (c k : Nat) : Option Addr := if c = k then A else A.map (·.add k)

section
variable {w w' : World} {ok ok' : Nat → Prop} {A : Option Addr} {bs : List Int}
theorem BytesAt.nil : BytesAt w ok A [] := fun h => absurd h (by simp)
theorem BytesAt.keep (h : BytesAt w ok A bs) (hk : ∀ g, ok g → w'.heap[g]? = w.heap[g]?) : BytesAt w' ok A bs := fun hp => by
  obtain ⟨g, off, e, ho, hc⟩ := h hp
  exact ⟨g, off, e, ho, fun j z hz => (World.cell?_of_block (hk g ho)).trans (hc j z hz)⟩
theorem BytesAt.weak (h : BytesAt w ok A bs) (hk : ∀ g, ok g → ok' g) : BytesAt w ok' A bs := fun hp => by
  obtain ⟨g, off, e, ho, hc⟩ := h hp
  exact ⟨g, off, e, hk g ho, hc⟩
theorem BytesAt.take (h : BytesAt w ok A bs) (n : Nat) : BytesAt w ok A (bs.take n) := fun hp => by
  obtain ⟨g, off, e, ho, hc⟩ := h (by simp at hp; omega)
  refine ⟨g, off, e, ho, fun j z hz => hc j z ?_⟩
  rw [List.getElem?_take] at hz
  split at hz
  · exact hz
  · cases hz
theorem BytesAt.drop (h : BytesAt w ok A bs) (n : Nat) : BytesAt w ok (A.map (·.add n)) (bs.drop n) := fun hp => by
  obtain ⟨g, off, e, ho, hc⟩ := h (by simp at hp; omega)
  subst e
  refine ⟨g, off + n, ?_, ho, fun j z hz => ?_⟩
  · by_cases hn : n = 0 <;> simp [Addr.add, hn]
  · rw [List.getElem?_drop] at hz
    have := hc (n + j) z hz
    rwa [← Nat.add_assoc] at this
theorem BytesAt.cut (h : BytesAt w ok A bs) {c : Nat} (hc : bs.length ≤ c) (k : Nat) : BytesAt w ok (cutA A c k) (bs.drop k) := by
  unfold cutA
  split
  · rw [List.drop_eq_nil_of_le (by omega)]
    exact .nil
  · exact h.drop k
end

/-- A SLICE OF BYTES -/
structure Src (w : World) (ok : Nat → Prop) (A : Option Addr) (l c : Nat) (bs : List Int) : Prop where
  len : bs.length = l
  cap : l ≤ c
  non : A = none → c = 0
  max : c ≤ maxLen
  rng : ∀ x ∈ bs, 0 ≤ x ∧ x < 256
  lies : BytesAt w ok A bs

section
variable {w w' : World} {ok ok' : Nat → Prop} {A : Option Addr} {l c : Nat} {bs : List Int}
theorem Src.keep (h : Src w ok A l c bs) (hk : ∀ g, ok g → w'.heap[g]? = w.heap[g]?) : Src w' ok A l c bs := ⟨h.len, h.cap, h.non, h.max, h.rng, h.lies.keep hk⟩
theorem Src.weak (h : Src w ok A l c bs) (hk : ∀ g, ok g → ok' g) : Src w ok' A l c bs := ⟨h.len, h.cap, h.non, h.max, h.rng, h.lies.weak hk⟩
theorem Src.below {B : Nat} (h : Src w ok A l c bs) (hb : Below B w w') (hg : ∀ g, ok g → g < B) : Src w' ok A l c bs := h.keep fun g hk => hb.block g (hg g hk)
theorem Src.still (h : Src w ok A l c bs) (hs : Still w w') : Src w' ok A l c bs := h.keep fun g _ => by rw [hs.heap]
theorem Src.nil (w : World) (ok : Nat → Prop) : Src w ok none 0 0 [] := ⟨rfl, Nat.le_refl _, fun _ => rfl, by unfold maxLen; omega, by simp, .nil⟩
theorem Src.cut (h : Src w ok A l c bs) (k n : Nat) (hk : k + n ≤ l) : Src w ok (cutA A c k) n (c - k) ((bs.drop k).take n) := by
  refine ⟨by have := h.len; simp; omega, by have := h.cap; omega, fun e => ?_, by have := h.max; omega, fun x hx => h.rng x (List.mem_of_mem_drop (List.mem_of_mem_take hx)), (h.lies.cut (by have := h.cap; have := h.len; omega) k).take n⟩
  unfold cutA at e
  split at e
  · omega
  · rw [h.non (by simpa using e), Nat.zero_sub]
theorem Src.bytesIn (h : Src w ok A l c bs) (hl : 0 < l) : ∃ g off, A = some ⟨g, off, none⟩ ∧ ∀ i, i < l → w.cell? ⟨g, off + i, none⟩ = some (.int .u8 (bs.getD i 0)) := by
  obtain ⟨g, off, e, _, hc⟩ := h.lies (by rw [h.len]; exact hl)
  refine ⟨g, off, e, fun i hi => ?_⟩
  have hi' : i < bs.length := by rw [h.len]; exact hi
  rw [hc i bs[i] (List.getElem?_eq_getElem hi')]
  simp [List.getD, hi']
theorem Src.add_cell (h : Src w ok A l c bs) {a : Addr} (ha : A = some a) : ∀ i, i < l → w.cell? (a.add i) = some (.int .u8 (bs.getD i 0)) := fun i hi => by
  obtain ⟨g, off, e, hc⟩ := h.bytesIn (by omega)
  rw [ha] at e
  cases e
  rw [← hc i hi]
  by_cases h0 : i = 0 <;> simp [Addr.add, h0]
end

section
variable {w w' : World} {B : Nat} {A : Option Addr} {n c : Nat} {bs : List Int}
/-- a row of bytes of the call's own is a slice of bytes -/
theorem src_of_own (h : w.ownsRow B 5 1 (.slice A n c) n (B8 bs)) (hr : ∀ x ∈ bs, 0 ≤ x ∧ x < 256) : Src w (fun g => B ≤ g ∧ g < w.heap.size ∧ (Value.slice A n c).ownBlock = some g) A n c bs := by
  have hl : bs.length = n := by
    have := h.1
    rw [B8_length] at this
    omega
  rcases h.2 with ⟨hv, hn⟩ | ⟨g, cap, cur, hv, hb, hh, hnc, hm, hs, ht⟩
  · simp only [Value.slice.injEq] at hv
    obtain ⟨rfl, _, rfl⟩ := hv
    exact ⟨hl, by omega, fun _ => rfl, by unfold maxLen; omega, hr, fun hp => absurd hp (by omega)⟩
  · simp only [Value.slice.injEq] at hv
    obtain ⟨rfl, _, rfl⟩ := hv
    refine ⟨hl, hnc, fun e => (by cases e), hm, hr, fun hp => ⟨g, 0, rfl, ⟨hb, (Array.getElem?_eq_some_iff.1 hh).1, rfl⟩, fun j z hz => ?_⟩⟩
    have hz' : (B8 bs)[j]? = some (.int .u8 z) := by simp [B8, hz]
    rw [← ht, Nat.mul_one, List.getElem?_take] at hz'
    split at hz'
    · simp [World.cell?, hh, Nat.zero_add]
      simpa using hz'
    · cases hz'
theorem own_form {v : Value} {e : TypeId} {k : Nat} {xs : List Value} (h : w.ownsRow B e 1 v k xs) : ∃ A c, v = .slice A k c := by
  rcases h.2 with ⟨rfl, rfl⟩ | ⟨g', cap, cur, hv, _⟩
  · exact ⟨none, 0, rfl⟩
  · exact ⟨_, _, hv⟩
theorem own_same {v : Value} {e : TypeId} {k : Nat} {xs : List Value} (h : w.ownsRow B e 1 v k xs) (hk : ∀ g, v.ownBlock = some g → w'.heap[g]? = w.heap[g]?) : w'.ownsRow B e 1 v k xs := by
  refine ⟨h.1, ?_⟩
  rcases h.2 with h0 | ⟨g, cap, cur, hv, hb, hh, rest⟩
  · exact .inl h0
  · exact .inr ⟨g, cap, cur, hv, hb, by rw [hk g (by rw [hv]; rfl)]; exact hh, rest⟩
theorem own_lt {v : Value} {e : TypeId} {k : Nat} {xs : List Value} (h : w.ownsRow B e 1 v k xs) {g : Nat} (hg : v.ownBlock = some g) : B ≤ g ∧ g < w.heap.size := by
  rcases h.2 with ⟨rfl, _⟩ | ⟨g', cap, cur, rfl, hb, hh, _⟩
  · simp [Value.ownBlock] at hg
  · have : g' = g := by simpa [Value.ownBlock] using hg
    subst this
    exact ⟨hb, (Array.getElem?_eq_some_iff.1 hh).1⟩
theorem own_ne {g t : Nat} {e : TypeId} {cs : Array Value} {v : Value} {k : Nat} {xs : List Value} (h : w.ownsRow B e 1 v k xs) (hl : Lies w g t cs) (hne : e ≠ t) : v.ownBlock ≠ some g := by
  rcases h.2 with ⟨rfl, _⟩ | ⟨g', cap, cur, rfl, _, hh, _⟩
  · simp [Value.ownBlock]
  · intro e'
    have : g' = g := by simpa [Value.ownBlock] using e'
    subst this
    exact Lies.apart (t := e) (t' := t) (show Lies w g' e cur from hh) hl hne rfl
end

theorem B8_one (zs : List Int) : ∀ v ∈ B8 zs, v.oneCell' = true := by
  intro v hv
  obtain ⟨z, _, rfl⟩ := List.mem_map.1 hv
  rfl

/-- append, and where the row lies behind it -/
theorem append_at {w : World} {base : Nat} {v : Value} {n : Nat} {xs ys : List Int} {ok : Nat → Prop} {A : Option Addr} {m c : Nat} (hown : w.ownsRow base 5 1 v n (B8 xs)) (hs : Src w ok A m c ys) (h1 : n + m ≤ 1000000) (hb : base ≤ w.heap.size) :
    ∃ A' c' w', (Builtin.append_ #[29, 29] 29 #[v, .slice A m c]).run Tryz.prog w = .ok (.slice A' (n + m) c') w' ∧ w'.ownsRow base 5 1 (.slice A' (n + m) c') (n + m) (B8 (xs ++ ys)) ∧ w.grownBy w' v.ownBlock ∧
      ∀ g, (Value.slice A' (n + m) c').ownBlock = some g → v.ownBlock = some g ∨ w.heap.size ≤ g := by
  obtain ⟨i0, hinf, hz0, hz1, hz2⟩ := info_parts (show (Tryz.prog.info? 5).map (fun i => (i.zero, i.size, i.bytes)) = some (some (.int .u8 0), 1, 1) by kernel_rfl)
  cases A with
  | none =>
    have hc := hs.non rfl
    have hm : m = 0 := by have := hs.cap; omega
    subst hc hm
    have hy : ys = [] := List.eq_nil_of_length_eq_zero hs.len
    subst hy
    have hr := run_append_owned_none (P := Tryz.prog) w base 29 29 5 i0 1 Tryz.underlying29 hinf v n (B8 xs) hown
    obtain ⟨A', c', rfl⟩ := own_form hown
    exact ⟨A', c', w, hr, by simpa using hown, World.grownBy.refl w _, fun g e => .inl e⟩
  | some a =>
    obtain ⟨v', w', hr, ho, hg, _, hat⟩ := run_append_own_at (P := Tryz.prog) w base 29 29 5 i0 (.int .u8 0) 1 1 Tryz.underlying29 hinf hz0 hz1 hz2 rfl (by decide) v n (B8 xs) hown a m c (B8 ys) (by rw [B8_length, hs.len]; omega)
      (fun j u hu => by
        have hj : j < m := by
          have := (List.getElem?_eq_some_iff.1 hu).1
          rw [B8_length, hs.len] at this
          exact this
        rw [hs.add_cell rfl j hj, ← hu]
        simp [B8, List.getD, hs.len, hj]) (B8_one _) (by unfold maxLen; omega) (by omega) hb
    obtain ⟨A', c', rfl⟩ := own_form ho
    have e : B8 (xs ++ ys) = B8 xs ++ B8 ys := by simp [B8]
    rw [e]
    refine ⟨A', c', w', hr, ho, hg, fun g e' => ?_⟩
    rcases hat with h | h
    · exact .inl (h.symm.trans e')
    · rw [h] at e'
      exact .inr (Nat.le_of_eq (Option.some.inj e'))

theorem wpList_append_eq {P : Program} {w w' : World} {ops : Array Oper} {rest : List Oper} {o : Oper} {a : Act} {Q : Exit → Act → World → Prop} {v u v' : Value} (hg : o.guard = none) (s x : Operand)
    (hop : o.op = Op.call { callee := Callee.builtin Builtin.append, args := #[s, x], argTypes := #[29, 29] }) (hty : o.type = 29) (hs : a.eval s = v) (hx : a.eval x = u)
    (hrun : (Builtin.append_ #[29, 29] 29 #[v, u]).run P w = .ok v' w') (h : wpList P ops Q rest (a.put o.dst v') w') : wpList P ops Q (o :: rest) a w := by
  refine wpList_plain hg fun K hK' => ?_
  unfold Oper.wp
  simp [execOp, hop, hty, resolve, invoke, builtin, hs, hx, hrun, Result.andThen]
  exact hK' _ _ h

theorem own_none (w : World) (B : Nat) (t : TypeId) : w.ownsRow B t 1 (.slice none 0 0) 0 [] := ⟨rfl, .inl ⟨rfl, rfl⟩⟩

/-- the byte at place i of a slice of bytes -/
theorem Src.cell {w : World} {ok : Nat → Prop} {A : Option Addr} {l c : Nat} {bs : List Int} (h : Src w ok A l c bs) {i : Nat} (hi : i < l) : ∃ g off x, A = some ⟨g, off, none⟩ ∧ ok g ∧ bs[i]? = some x ∧ w.cell? ⟨g, off + i, none⟩ = some (.int .u8 x) := by
  obtain ⟨g, off, e, ho, hc⟩ := h.lies (by rw [h.len]; omega)
  have hi' : i < bs.length := by rw [h.len]; exact hi
  exact ⟨g, off, bs[i], e, ho, List.getElem?_eq_getElem hi', hc i _ (List.getElem?_eq_getElem hi')⟩

theorem cut_l (W : World) (A : Option Addr) (n c k : Nat) (h : k ≤ n) :
    (Instr.slice 29 (.slice A n c) (some (.int .i64 (k : Int))) none none).run Tryz.prog W = .ok (.slice (cutA A c k) (n - k) (c - k)) W := by
  obtain ⟨i0, hi, hz0, hz1, hz2⟩ := info_parts (show (Tryz.prog.info? 5).map (fun i => (i.zero, i.size, i.bytes)) = some (some (.int .u8 0), 1, 1) by kernel_rfl)
  rw [run_slice_l W 29 _ n c (by kernel_rfl) .i64 _ (by omega) (by omega)]
  have he : Tryz.prog.elem 29 = 5 := by kernel_rfl
  rw [he]
  have hs : (sizeOf 5).run Tryz.prog W = .ok 1 W := by simp [sizeOf, typeInfo, hi, hz1]
  rw [hs]
  simp only [Result.andThen, sliced, Int.toNat_natCast, Nat.mul_one]
  rfl

/-- bytes as numbers -/
def ints (l : Str) : List Int := l.map fun x => (x.toNat : Int)
theorem ints_len (l : Str) : (ints l).length = l.length := by simp [ints]
theorem ints_rng (l : Str) : ∀ x ∈ ints l, 0 ≤ x ∧ x < 256 := by
  intro x hx
  obtain ⟨y, _, rfl⟩ := List.mem_map.1 hx
  have := y.toNat_lt
  omega
theorem ints_app (a b : Str) : ints (a ++ b) = ints a ++ ints b := by simp [ints]
theorem ints_nums (l : Str) : strOfNums (ints l) = S l := by
  unfold strOfNums ints S
  rw [List.map_map]
  have : (l.map ((fun n : Int => UInt8.ofNat n.toNat) ∘ fun x : UInt8 => (x.toNat : Int))) = l := by
    conv => rhs; rw [← List.map_id l]
    exact List.map_congr_left fun x _ => by simp
  rw [this]
theorem ints_of {xs : List Int} (h : ∀ x ∈ xs, 0 ≤ x ∧ x < 256) : ∃ l : Str, xs = ints l := by
  refine ⟨xs.map fun n => UInt8.ofNat n.toNat, ?_⟩
  unfold ints
  rw [List.map_map]
  conv => lhs; rw [← List.map_id xs]
  refine List.map_congr_left fun x hx => ?_
  obtain ⟨h0, h1⟩ := h x hx
  simp
  omega
theorem B8_cells (l : Str) : B8 (ints l) = Lib.byteCells l := by simp [B8, ints, Lib.byteCells]
theorem ints_get {l : Str} {i : Nat} {x : UInt8} (h : l[i]? = some x) : (ints l)[i]? = some (x.toNat : Int) := by simp [ints, h]

/-- a slice of bytes that spells l -/
abbrev Spell (w : World) (ok : Nat → Prop) (A : Option Addr) (n c : Nat) (l : Str) : Prop := Src w ok A n c (ints l)
theorem spell_len {w : World} {ok : Nat → Prop} {A : Option Addr} {n c : Nat} {l : Str} (h : Spell w ok A n c l) : l.length = n := by have := h.len; rwa [ints_len] at this
theorem spell_str {w : World} {ok : Nat → Prop} {A : Option Addr} {n c : Nat} {l : Str} (h : Spell w ok A n c l) : (convert 29 9 (.slice A n c)).run Tryz.prog w = .ok (.string (S l)) w := by
  rcases Nat.eq_zero_or_pos n with h0 | h0
  · have hl := spell_len h
    have : l = [] := List.eq_nil_of_length_eq_zero (by omega)
    subst h0 this
    rw [run_convert_bytes_string w 29 9 5 _ 0 c Tryz.underlying29 Tryz.underlying5 Tryz.underlying9]
    cases A <;> simp [Conv.bytesToString, loadCells]
    all_goals rfl
  · obtain ⟨g, off, rfl, hc⟩ := h.bytesIn (by omega)
    rw [← ints_nums]
    exact run_convert_bytes_arg (P := Tryz.prog) w 29 5 Tryz.underlying29 Tryz.underlying5 g off n c (ints l) h.len (fun i hi => hc i hi) 9 Tryz.underlying9
theorem spell_cell {w : World} {ok : Nat → Prop} {A : Option Addr} {n c : Nat} {l : Str} (h : Spell w ok A n c l) {i : Nat} {x : UInt8} (hx : l[i]? = some x) : ∃ g off, A = some ⟨g, off, none⟩ ∧ ok g ∧ w.cell? ⟨g, off + i, none⟩ = some (.int .u8 (x.toNat : Int)) := by
  have hi : i < l.length := (List.getElem?_eq_some_iff.1 hx).1
  obtain ⟨g, off, e, ho, hc⟩ := h.lies (by rw [ints_len]; omega)
  exact ⟨g, off, e, ho, hc i _ (ints_get hx)⟩
/-- bytes of the call's own that spell l -/
abbrev Own (w : World) (B : Nat) (v : Value) (l : Str) : Prop := w.ownsRow B 5 1 v l.length (B8 (ints l))
theorem own_spell {w : World} {B : Nat} {A : Option Addr} {n c : Nat} {l : Str} (h : w.ownsRow B 5 1 (.slice A n c) n (B8 (ints l))) : Spell w (fun g => B ≤ g ∧ g < w.heap.size ∧ (Value.slice A n c).ownBlock = some g) A n c l := src_of_own h (ints_rng l)
theorem lit_cell (w : World) (cs : Array Value) (t : TypeId) (fz : Nat × Nat) (j : Nat) : (w.alloc (.cells cs t fz)).cell? ⟨w.heap.size, j, none⟩ = cs[j]? := by
  have h : (w.alloc (.cells cs t fz)).heap[w.heap.size]? = some (.cells cs t fz) := heap_alloc_new w _
  unfold World.cell?
  rw [h]
  rfl
theorem src_lit (w : World) (xs : List Int) (fz : Nat × Nat) (hr : ∀ x ∈ xs, 0 ≤ x ∧ x < 256) (hl : xs.length ≤ 1000) : Src (w.alloc (.cells (B8 xs).toArray 5 fz)) (fun g => g = w.heap.size) (some ⟨w.heap.size, 0, none⟩) xs.length xs.length xs :=
  ⟨rfl, Nat.le_refl _, fun e => (by cases e), by unfold maxLen; omega, hr, fun _ => ⟨w.heap.size, 0, rfl, rfl, fun j z hz => by rw [Nat.zero_add, lit_cell]; simp [B8, hz]⟩⟩

/-- bytes of the call's own, and nothing that was there has turned -/
structure Made (w wr : World) (v : Value) (l : Str) : Prop where
  own : wr.ownsRow w.heap.size 5 1 v l.length (B8 (ints l))
  below : Below w.heap.size w wr
theorem Made.still {w wx wy : World} {v : Value} {l : Str} (h : Made w wx v l) (hs : Still wx wy) : Made w wy v l :=
  ⟨own_same h.own (fun g _ => by rw [hs.heap]), h.below.trans ((hs.below _).mono (Nat.le_refl _))⟩
theorem own_ge {w : World} {B : Nat} {v : Value} {k : Nat} {xs : List Value} (h : w.ownsRow B 5 1 v k xs) : ∀ g, v.ownBlock = some g → B ≤ g := fun g e => (own_lt h e).1
theorem Made.fresh {w wx wy : World} {v : Value} {l : Str} (h : Made w wx v l) (hb : Below wx.heap.size wx wy) : Made w wy v l :=
  ⟨own_same h.own (fun g hg => hb.block g (own_lt h.own hg).2), h.below.trans (hb.mono h.below.size)⟩
/-- one byte more -/
theorem Made.push {w w1 : World} {v : Value} {l : Str} (h : Made w w1 v l) (hl : l.length ≤ 100000) (x : UInt8) :
    ∃ A c w2, (Builtin.append_ #[29, 29] 29 #[v, .slice (some ⟨w1.heap.size, 0, none⟩) 1 1]).run Tryz.prog (w1.alloc (.cells #[.int .u8 (x.toNat : Int)] 5)) = .ok (.slice A (l.length + 1) c) w2 ∧
      Made w w2 (.slice A (l.length + 1) c) (l ++ [x]) := by
  have h3 := own_same (w' := w1.alloc (.cells #[.int .u8 (x.toNat : Int)] 5)) h.own (fun g hg => Below.heap_alloc _ _ _ (own_lt h.own hg).2)
  obtain ⟨A2, c2, w2, happ, ho, hg, _⟩ := append_at h3 (src_lit w1 [(x.toNat : Int)] (0, 0) (by have := x.toNat_lt; simp; omega) (by simp)) (by simp; omega) (by simp; have := h.below.size; omega)
  refine ⟨A2, c2, w2, happ, ?_, ((h.below.alloc h.below.size _).grown hg (h.below.alloc h.below.size _).size (own_ge h3))⟩
  rw [ints_app]
  have : (l ++ [x]).length = l.length + 1 := by simp
  rw [this]
  exact ho

theorem src_lies {w : World} {g : Nat} {xs : List Int} (h : Lies w g 5 (B8 xs).toArray) (hr : ∀ x ∈ xs, 0 ≤ x ∧ x < 256) (hl : xs.length ≤ 1000) : Src w (fun k => k = g) (some ⟨g, 0, none⟩) xs.length xs.length xs :=
  ⟨rfl, Nat.le_refl _, fun e => (by cases e), by unfold maxLen; omega, hr, fun _ => ⟨g, 0, rfl, rfl, fun j z hz => by rw [Nat.zero_add, h.cell]; simp [B8, hz]⟩⟩
/-- bytes more -/
theorem Made.app {w wr W : World} {v : Value} {l ys : Str} {ok : Nat → Prop} {A : Option Addr} {m c : Nat} (h : Made w wr v l) (hb : Below wr.heap.size wr W) (hs : Spell W ok A m c ys) (hl : l.length + m ≤ 100000) :
    ∃ A2 c2 w2, (Builtin.append_ #[29, 29] 29 #[v, .slice A m c]).run Tryz.prog W = .ok (.slice A2 (l.length + m) c2) w2 ∧ Made w w2 (.slice A2 (l.length + m) c2) (l ++ ys) := by
  have h1 := h.fresh hb
  obtain ⟨A2, c2, w2, happ, ho, hg, _⟩ := append_at h1.own hs (by omega) (by have := h1.below.size; omega)
  refine ⟨A2, c2, w2, happ, ?_, h1.below.grown hg h1.below.size (own_ge h1.own)⟩
  rw [ints_app]
  have : (l ++ ys).length = l.length + m := by rw [List.length_append, spell_len hs]
  rw [this]
  exact ho

/-- the empty literal is the call's own -/
theorem own_empty (w : World) : (w.alloc (.cells #[] 5)).ownsRow w.heap.size 5 1 (.slice (some ⟨w.heap.size, 0, none⟩) 0 0) 0 (B8 (ints [])) :=
  ⟨rfl, .inr ⟨w.heap.size, 0, #[], rfl, Nat.le_refl _, heap_alloc_new w _, Nat.le_refl _, by unfold maxLen; omega, rfl, rfl⟩⟩
theorem made_empty (w : World) : Made w (w.alloc (.cells #[] 5)) (.slice (some ⟨w.heap.size, 0, none⟩) (0 : Nat) 0) [] := ⟨own_empty w, (Below.refl _ _).alloc (Nat.le_refl _) _⟩
theorem mine {w : World} {ok : Nat → Prop} {A : Option Addr} {n c : Nat} {b : Str} (hs : Spell w ok A n c b) (hok : ∀ g, ok g → g < w.heap.size) (hl : n ≤ 10000) :
    ∃ A2 c2 w2, (Builtin.append_ #[29, 29] 29 #[.slice (some ⟨w.heap.size, 0, none⟩) 0 0, .slice A n c]).run Tryz.prog (w.alloc (.cells #[] 5)) = .ok (.slice A2 n c2) w2 ∧ Made w w2 (.slice A2 n c2) b := by
  have h1 := hs.below ((Below.refl w.heap.size w).alloc (Nat.le_refl _) (.cells #[] 5)) hok
  obtain ⟨A2, c2, w2, happ, hmd⟩ := (made_empty w).app (Below.refl _ _) h1 (by simp; omega)
  simp only [List.length_nil, Nat.zero_add, List.nil_append] at happ hmd
  exact ⟨A2, c2, w2, happ, hmd⟩
theorem made_spell {w wr : World} {A : Option Addr} {n c : Nat} {b : Str} (h : Made w wr (.slice A n c) b) (hn : b.length = n) : Spell wr (fun g => g < wr.heap.size) A n c b := by
  subst hn
  exact (own_spell h.own).weak fun g hg => hg.2.1

theorem S_toList (l : Str) : (S l).toList = l := by rw [Lib.toList_data]; exact S_list l
theorem str_ne {a b : Str} (h : a ≠ b) : ((S a).toList == (S b).toList) = false ∧ ((S a).toList != (S b).toList) = true := by
  rw [S_toList, S_toList]
  have h1 : (a == b) = false := beq_eq_false_iff_ne.2 h
  exact ⟨h1, by simp [bne, h1]⟩
theorem str_eq (a : Str) : ((S a).toList == (S a).toList) = true ∧ ((S a).toList != (S a).toList) = false := by simp

theorem Src.takeN {w : World} {ok : Nat → Prop} {A : Option Addr} {l c : Nat} {bs : List Int} (h : Src w ok A l c bs) (m : Nat) (hm : m ≤ l) : Src w ok A m c (bs.take m) :=
  ⟨by have := h.len; simp; omega, by have := h.cap; omega, h.non, h.max, fun x hx => h.rng x (List.mem_of_mem_take hx), h.lies.take m⟩
theorem ints_take (l : Str) (m : Nat) : (ints l).take m = ints (l.take m) := by simp [ints]
theorem ints_drop (l : Str) (m : Nat) : (ints l).drop m = ints (l.drop m) := by simp [ints]
theorem made_nil (w : World) : Made w w (.slice none (0 : Nat) 0) [] := ⟨own_none w _ _, Below.refl _ _⟩
def True_ (w : World) (e : Ending) (w' : World) : Prop := e = .returned (.bool true) ∧ Below w.heap.size w w'
theorem spell_bytes (l : Str) : Lib.bytesOf (ints l) = l := by
  unfold Lib.bytesOf ints
  rw [List.map_map]
  conv => rhs; rw [← List.map_id l]
  exact List.map_congr_left fun x _ => by simp

theorem first_cell {w : World} {ok : Nat → Prop} {A : Option Addr} {n c : Nat} {x : UInt8} {r : Str} (hs : Spell w ok A n c (x :: r)) : ∃ g off, A = some ⟨g, off, none⟩ ∧ ok g ∧ w.cell? ⟨g, off, none⟩ = some (.int .u8 (x.toNat : Int)) := by
  obtain ⟨g, off, rfl, ho, hc⟩ := hs.lies (by simp [ints])
  exact ⟨g, off, rfl, ho, hc 0 _ (by simp [ints])⟩
theorem two_cells {w : World} {ok : Nat → Prop} {A : Option Addr} {n c : Nat} {x y : UInt8} {r : Str} (hs : Spell w ok A n c (x :: y :: r)) : ∃ g off, A = some ⟨g, off, none⟩ ∧ ok g ∧ w.cell? ⟨g, off, none⟩ = some (.int .u8 (x.toNat : Int)) ∧ w.cell? ⟨g, off + 1, none⟩ = some (.int .u8 (y.toNat : Int)) := by
  obtain ⟨g, off, rfl, ho, hc⟩ := hs.lies (by simp [ints])
  exact ⟨g, off, rfl, ho, hc 0 _ (by simp [ints]), hc 1 _ (by simp [ints])⟩
/-- a fact kept shut: the walk can't look into it -/
structure Bx (p : Prop) : Prop where
  out : p
end Go.Proofs.YtghdaengkgiekaaGreatDoor.hd

/-
  Given for the seat's laws: rows of fields (pairs of texts) as they lie, bytes and fields appended; the contracts of the functions of one byte. No condition but those of the theorems.
-/
namespace Go.Proofs.YtghdaengkgiekaaGreatDoor.hd
open Go.RowKit mem
set_option linter.unusedVariables false

section
variable {P : Program} {a : Act} {w w' : World} {ops : Array Oper} {o : Oper} {Q : Exit → Act → World → Prop} {v u v' : Value}
theorem step_append_eq {K : Act → World → Prop} {E : Prop} (hg : o.guard = none) (s x : Operand) (t tn : TypeId)
    (hop : o.op = Op.call { callee := Callee.builtin Builtin.append, args := #[s, x], argTypes := #[t, tn] }) (hty : o.type = t) (hs : a.eval s = v) (hx : a.eval x = u)
    (hrun : (Builtin.append_ #[t, tn] t #[v, u]).run P w = .ok v' w') (h : K (a.put o.dst v') w') : if Region.wanted o (yielded ops a.tmps) = true then Oper.wp P o a w K Q else E := by
  have hw : Region.wanted o (yielded ops a.tmps) = true := by simp [Region.wanted, hg]
  rw [if_pos hw]
  unfold Oper.wp
  simp [execOp, hop, hty, resolve, invoke, builtin, hs, hx, hrun, Result.andThen]
  exact h
theorem wpList_append_g {rest : List Oper} (hg : o.guard = none) (s x : Operand) (t tn : TypeId)
    (hop : o.op = Op.call { callee := Callee.builtin Builtin.append, args := #[s, x], argTypes := #[t, tn] }) (hty : o.type = t) (hs : a.eval s = v) (hx : a.eval x = u)
    (hrun : (Builtin.append_ #[t, tn] t #[v, u]).run P w = .ok v' w') (h : wpList P ops Q rest (a.put o.dst v') w') : wpList P ops Q (o :: rest) a w := by
  refine wpList_plain hg fun K hK' => ?_
  unfold Oper.wp
  simp [execOp, hop, hty, resolve, invoke, builtin, hs, hx, hrun, Result.andThen]
  exact hK' _ _ h
end

/-! ### rows of the call's own -/
theorem rown_same {w w' : World} {B : Nat} {v : Value} {e : TypeId} {sz k : Nat} {xs : List Value} (h : w.ownsRow B e sz v k xs) (hk : ∀ g, v.ownBlock = some g → w'.heap[g]? = w.heap[g]?) : w'.ownsRow B e sz v k xs := by
  refine ⟨h.1, ?_⟩
  rcases h.2 with h0 | ⟨g, cap, cur, hv, hb, hh, rest⟩
  · exact .inl h0
  · exact .inr ⟨g, cap, cur, hv, hb, by rw [hk g (by rw [hv]; rfl)]; exact hh, rest⟩
theorem rown_lt {w : World} {B : Nat} {v : Value} {e : TypeId} {sz k : Nat} {xs : List Value} (h : w.ownsRow B e sz v k xs) {g : Nat} (hg : v.ownBlock = some g) : B ≤ g ∧ g < w.heap.size := by
  rcases h.2 with ⟨rfl, _⟩ | ⟨g', cap, cur, rfl, hb, hh, _⟩
  · simp [Value.ownBlock] at hg
  · have : g' = g := by simpa [Value.ownBlock] using hg
    subst this
    exact ⟨hb, (Array.getElem?_eq_some_iff.1 hh).1⟩
theorem rown_apart {w : World} {B B' : Nat} {v v' : Value} {e e' : TypeId} {sz sz' k k' : Nat} {xs xs' : List Value} (h : w.ownsRow B e sz v k xs) (h' : w.ownsRow B' e' sz' v' k' xs') (hne : e ≠ e') {g : Nat} (hg : v.ownBlock = some g) : v'.ownBlock ≠ some g := by
  rcases h.2 with ⟨rfl, _⟩ | ⟨g1, cap, cur, rfl, _, hh, _⟩
  · simp [Value.ownBlock] at hg
  · have e1 : g1 = g := by simpa [Value.ownBlock] using hg
    subst e1
    rcases h'.2 with ⟨rfl, _⟩ | ⟨g2, cap2, cur2, rfl, _, hh2, _⟩
    · simp [Value.ownBlock]
    · intro e2
      have e3 : g2 = g1 := by simpa [Value.ownBlock] using e2
      subst e3
      rw [hh] at hh2
      simp at hh2
      exact hne hh2.2
theorem rown_ne {w : World} {B g : Nat} {e t : TypeId} {cs : Array Value} {v : Value} {sz k : Nat} {xs : List Value} (h : w.ownsRow B e sz v k xs) (hl : Lies w g t cs) (hne : e ≠ t) : v.ownBlock ≠ some g := by
  rcases h.2 with ⟨rfl, _⟩ | ⟨g', cap, cur, rfl, _, hh, _⟩
  · simp [Value.ownBlock]
  · intro e'
    have : g' = g := by simpa [Value.ownBlock] using e'
    subst this
    exact Lies.apart (t := e) (t' := t) (show Lies w g' e cur from hh) hl hne rfl
theorem rown_form {w : World} {B : Nat} {v : Value} {e : TypeId} {sz k : Nat} {xs : List Value} (h : w.ownsRow B e sz v k xs) : ∃ A c, v = .slice A k c := by
  rcases h.2 with ⟨rfl, rfl⟩ | ⟨g', cap, cur, hv, _⟩
  · exact ⟨none, 0, rfl⟩
  · exact ⟨_, _, hv⟩
/-- a frame: every block but those of S is as it was -/
structure Kp (S : Nat → Prop) (W W1 : World) : Prop where
  os : W1.os = W.os
  tape : W1.tape = W.tape
  output : W1.output = W.output
  size : W.heap.size ≤ W1.heap.size
  block : ∀ k, k < W.heap.size → ¬ S k → W1.heap[k]? = W.heap[k]?
theorem Kp.below {S : Nat → Prop} {W W1 : World} {B : Nat} (h : Kp S W W1) (hB : B ≤ W.heap.size) (hS : ∀ k, k < B → ¬ S k) : Below B W W1 := ⟨h.os, h.tape, h.output, h.size, fun k hk => h.block k (by omega) (hS k hk)⟩

def flat2 (fs : Flds) : List Value := fs.flatMap fun p => [.string (S p.1), .string (S p.2)]
theorem flat2_app (a b : Flds) : flat2 (a ++ b) = flat2 a ++ flat2 b := by simp [flat2]
theorem flat2_len (a : Flds) : (flat2 a).length = 2 * a.length := by
  induction a with
  | nil => rfl
  | cons p r ih => simp [flat2] at ih ⊢; omega
theorem flat2_at {fs : Flds} {i : Nat} {p : Str × Str} (h : fs[i]? = some p) : (flat2 fs)[2 * i]? = some (.string (S p.1)) ∧ (flat2 fs)[2 * i + 1]? = some (.string (S p.2)) := by
  induction fs generalizing i with
  | nil => simp at h
  | cons q r ih =>
    cases i with
    | zero => simp at h; subst h; exact ⟨rfl, rfl⟩
    | succ i =>
      have := ih (i := i) (by simpa using h)
      have e : flat2 (q :: r) = .string (S q.1) :: .string (S q.2) :: flat2 r := rfl
      rw [e, show 2 * (i + 1) = 2 * i + 1 + 1 by omega]
      simpa using this
/-- fields of the call's own -/
abbrev RowF (W : World) (B : Nat) (v : Value) (fs : Flds) : Prop := W.ownsRow B 54 2 v fs.length (flat2 fs)
abbrev RowB (W : World) (B : Nat) (v : Value) (l : Str) : Prop := W.ownsRow B 5 1 v l.length (B8 (ints l))
theorem twoInfo : (Tryz.prog.info? 54).map (fun i => (i.zero, i.size, i.bytes)) = some (some (.agg #[.string ⟨#[]⟩, .string ⟨#[]⟩]), 2, 32) := by kernel_rfl
/-- a field more -/
theorem pushF {W : World} {B : Nat} {A : Option Addr} {n c : Nat} {fs : Flds} (h : RowF W B (.slice A n c) fs) (hn : fs.length = n) (hB : B ≤ W.heap.size) (p : Str × Str) (hl : n ≤ 1000) :
    ∃ A' c' W', (Builtin.append_ #[45, 45] 45 #[.slice A n c, .slice (some ⟨W.heap.size, 0, none⟩) 1 1]).run Tryz.prog (W.alloc (.cells #[.string (S p.1), .string (S p.2)] 54)) = .ok (.slice A' (n + 1 : Nat) c') W' ∧
      RowF W' B (.slice A' (n + 1 : Nat) c') (fs ++ [p]) ∧ Kp (fun k => (Value.slice A n c).ownBlock = some k) W W' := by
  subst hn
  obtain ⟨i0, hinf, hz0, hz1, hz2⟩ := info_parts twoInfo
  have h3 := rown_same (w' := W.alloc (.cells #[.string (S p.1), .string (S p.2)] 54)) h (fun g hg => Below.heap_alloc _ _ _ (rown_lt h hg).2)
  obtain ⟨v', W', hr, ho, hg, _⟩ := run_append_own (P := Tryz.prog) (W.alloc (.cells #[.string (S p.1), .string (S p.2)] 54)) B 45 45 54 i0 _ 2 32 Tryz.underlying45 hinf hz0 hz1 hz2 rfl (by decide) _ _ _ h3 ⟨W.heap.size, 0, none⟩ 1 1 [.string (S p.1), .string (S p.2)] rfl (fun j u hu => by
    rw [Addr.add_lit, Nat.zero_add, lit_cell]
    simpa using hu) (by simp [Value.oneCell']) (by unfold maxLen; omega) (by omega) (by simp; omega)
  obtain ⟨A', c', rfl⟩ := rown_form ho
  have e : flat2 (fs ++ [p]) = flat2 fs ++ [.string (S p.1), .string (S p.2)] := by rw [flat2_app]; rfl
  have el : (fs ++ [p]).length = fs.length + 1 := by simp
  refine ⟨A', c', W', hr, by unfold RowF; rw [el, e]; exact ho, ⟨hg.os, hg.tape, hg.output, by have := hg.size; simp at this; omega, fun k hk hs => ?_⟩⟩
  rw [hg.block k (by simp; omega) (fun e => hs e.symm)]
  exact Below.heap_alloc _ _ _ hk
/-- a byte more -/
theorem pushB {W : World} {B : Nat} {A : Option Addr} {n c : Nat} {l : Str} (h : RowB W B (.slice A n c) l) (hn : l.length = n) (hB : B ≤ W.heap.size) (x : UInt8) (hl : n ≤ 100000) :
    ∃ A' c' W', (Builtin.append_ #[29, 29] 29 #[.slice A n c, .slice (some ⟨W.heap.size, 0, none⟩) 1 1]).run Tryz.prog (W.alloc (.cells #[.int .u8 (x.toNat : Int)] 5)) = .ok (.slice A' (n + 1 : Nat) c') W' ∧
      RowB W' B (.slice A' (n + 1 : Nat) c') (l ++ [x]) ∧ Kp (fun k => (Value.slice A n c).ownBlock = some k) W W' := by
  subst hn
  have h3 := rown_same (w' := W.alloc (.cells #[.int .u8 (x.toNat : Int)] 5)) h (fun g hg => Below.heap_alloc _ _ _ (rown_lt h hg).2)
  obtain ⟨A', c', W', hr, ho, hg, _⟩ := append_at h3 (src_lit W [(x.toNat : Int)] (0, 0) (by have := x.toNat_lt; simp; omega) (by simp)) (by simp; omega) (by simp; omega)
  have el : (l ++ [x]).length = l.length + 1 := by simp
  refine ⟨A', c', W', hr, by unfold RowB; rw [el, ints_app]; exact ho, ⟨hg.os, hg.tape, hg.output, by have := hg.size; simp at this; omega, fun k hk hs => ?_⟩⟩
  rw [hg.block k (by simp; omega) (fun e => hs e.symm)]
  exact Below.heap_alloc _ _ _ hk

/-! ### functions of one byte -/
theorem lw_nat (c : UInt8) : (lw c).toNat = if 65 ≤ c.toNat ∧ c.toNat ≤ 90 then c.toNat + 32 else c.toNat := by
  have := byte_all (fun c => (lw c).toNat == if 65 ≤ c.toNat ∧ c.toNat ≤ 90 then c.toNat + 32 else c.toNat) (by decide +kernel) c
  simpa using this
theorem mayLine_any (c : UInt8) (w : World) : Calls Tryz.prog 68 #[.int .u8 (c.toNat : Int)] w fun e w' => e = .returned (.bool (vis c)) ∧ w' = w := by
  have hv : vis c = (decide (32 ≤ c.toNat) && decide (c.toNat ≤ 126)) := rfl
  by_cases h1 : 32 ≤ c.toNat
  · have i1 : (32 : Int) ≤ (c.toNat : Int) := by omega
    by_cases h2 : c.toNat ≤ 126
    · have i2 : (c.toNat : Int) ≤ 126 := by omega
      rw [hv]
      simp only [h1, h2]
      generalize (c.toNat : Int) = z at *
      clear hv h1 h2
      go_enter Tryz.func68, Tryz.ntmps68
      go_wp2_with fail
      go_ret
      exact ⟨rfl, rfl⟩
    · have i2 : ¬ (c.toNat : Int) ≤ 126 := by omega
      rw [hv]
      simp only [h1, h2]
      generalize (c.toNat : Int) = z at *
      clear hv h1 h2
      go_enter Tryz.func68, Tryz.ntmps68
      go_wp2_with fail
      go_ret
      exact ⟨rfl, rfl⟩
  · have i1 : ¬ (32 : Int) ≤ (c.toNat : Int) := by omega
    rw [hv]
    simp only [h1]
    generalize (c.toNat : Int) = z at *
    clear hv h1
    go_enter Tryz.func68, Tryz.ntmps68
    go_wp2_with fail
    go_ret
    exact ⟨rfl, rfl⟩
theorem lower_any (c : UInt8) (w : World) : Calls Tryz.prog 43 #[.int .u8 (c.toNat : Int)] w fun e w' => e = .returned (.int .u8 ((lw c).toNat : Int)) ∧ w' = w := by
  have hl := lw_nat c
  by_cases h1 : 65 ≤ c.toNat
  · have i1 : (65 : Int) ≤ (c.toNat : Int) := by omega
    by_cases h2 : c.toNat ≤ 90
    · have i2 : (c.toNat : Int) ≤ 90 := by omega
      rw [if_pos ⟨h1, h2⟩] at hl
      have hz : (c.toNat : Int) - 65 + 97 = ((lw c).toNat : Int) := by omega
      generalize ((lw c).toNat : Int) = y at *
      generalize (c.toNat : Int) = z at *
      clear hl h1 h2
      go_enter Tryz.func43, Tryz.ntmps43
      go_wp2_with fail
      go_ret
      exact ⟨rfl, rfl⟩
    · have i2 : ¬ (c.toNat : Int) ≤ 90 := by omega
      rw [if_neg (fun h => h2 h.2)] at hl
      rw [hl]
      generalize (c.toNat : Int) = z at *
      clear hl h1 h2
      go_enter Tryz.func43, Tryz.ntmps43
      go_wp2_with fail
      go_ret
      exact ⟨rfl, rfl⟩
  · have i1 : ¬ (65 : Int) ≤ (c.toNat : Int) := by omega
    rw [if_neg (fun h => h1 h.1)] at hl
    rw [hl]
    generalize (c.toNat : Int) = z at *
    clear hl h1
    go_enter Tryz.func43, Tryz.ntmps43
    go_wp2_with fail
    go_ret
    exact ⟨rfl, rfl⟩
theorem sgn_lw (c : UInt8) (h : 97 ≤ (lw c).toNat ∧ (lw c).toNat ≤ 122) : sgn c = true := by
  have := byte_all (fun c => !(decide (97 ≤ (lw c).toNat) && decide ((lw c).toNat ≤ 122)) || sgn c) (by decide +kernel) c
  simpa [h.1, h.2] using this
theorem sgn_dig (c : UInt8) (h : 48 ≤ c.toNat ∧ c.toNat ≤ 57) : sgn c = true := by simp [sgn, h.1, h.2]
theorem sgn_mark (c : UInt8) (h : ¬ (97 ≤ (lw c).toNat ∧ (lw c).toNat ≤ 122)) (h2 : ¬ (48 ≤ c.toNat ∧ c.toNat ≤ 57)) : sgn c = decide (0 ≤ Lib.indexByte marks c) := by
  have := byte_all (fun c => (decide (97 ≤ (lw c).toNat) && decide ((lw c).toNat ≤ 122)) || (decide (48 ≤ c.toNat) && decide (c.toNat ≤ 57)) || (sgn c == decide (0 ≤ Lib.indexByte marks c))) (by decide +kernel) c
  simp only [Bool.or_eq_true, Bool.and_eq_true, decide_eq_true_eq, beq_iff_eq] at this
  rcases this with (h' | h') | h'
  · exact absurd h' h
  · exact absurd h' h2
  · exact h'
theorem index_any (c : UInt8) (w : World) : Calls Tryz.prog 72 #[.string ⟨#[33, 35, 36, 37, 38, 39, 42, 43, 45, 46, 94, 95, 96, 124, 126]⟩, .int .u8 (c.toNat : Int)] w fun e w' => e = .returned (.int .i64 (Lib.indexByte marks c)) ∧ w' = w := by
  have := Tryz.strings_IndexByte ⟨#[33, 35, 36, 37, 38, 39, 42, 43, 45, 46, 94, 95, 96, 124, 126]⟩ (c.toNat : Int) w
  have e : ((c.toNat : Int).toNat.toUInt8) = c := by simp
  rw [e] at this
  exact this
set_option maxHeartbeats 1000000 in
theorem mayName_any (c : UInt8) (w : World) : Calls Tryz.prog 44 #[.int .u8 (c.toNat : Int)] w fun e w' => e = .returned (.bool (sgn c)) ∧ w' = w := by
  have HL := Bx.mk (lower_any c w)
  by_cases h1 : 97 ≤ (lw c).toNat ∧ (lw c).toNat ≤ 122
  · rw [sgn_lw c h1]
    have i1 : (97 : Int) ≤ ((lw c).toNat : Int) := by omega
    have i2 : ((lw c).toNat : Int) ≤ 122 := by omega
    generalize ((lw c).toNat : Int) = y at *
    generalize (c.toNat : Int) = z at *
    clear h1
    go_enter Tryz.func44, Tryz.ntmps44
    go_wp2_with fail
    refine HL.out.mono ?_
    rintro e w2 ⟨rfl, rfl⟩
    go_wp2_with fail
    go_ret
    exact ⟨rfl, rfl⟩
  · by_cases h2 : 48 ≤ c.toNat ∧ c.toNat ≤ 57
    · rw [sgn_dig c h2]
      have j1 : (48 : Int) ≤ (c.toNat : Int) := by omega
      have j2 : (c.toNat : Int) ≤ 57 := by omega
      have hx : (lw c).toNat = c.toNat := by rw [lw_nat]; exact if_neg (by omega)
      have hy : ((lw c).toNat : Int) = (c.toNat : Int) := by omega
      rw [hy] at HL
      have i1 : ¬ (97 : Int) ≤ (c.toNat : Int) := by omega
      generalize (c.toNat : Int) = z at *
      clear h1 h2 hx hy
      go_enter Tryz.func44, Tryz.ntmps44
      go_wp2_with fail
      refine HL.out.mono ?_
      rintro e w2 ⟨rfl, rfl⟩
      go_wp2_with fail
      go_ret
      exact ⟨rfl, rfl⟩
    · have HI := Bx.mk (index_any c w)
      rw [sgn_mark c h1 h2]
      generalize Lib.indexByte marks c = q at *
      generalize ((lw c).toNat : Nat) = y at *
      generalize (c.toNat : Nat) = z at *
      rcases (show ¬ 97 ≤ y ∨ (97 ≤ y ∧ ¬ y ≤ 122) by omega) with a1 | ⟨a1, a2⟩ <;> rcases (show ¬ 48 ≤ z ∨ (48 ≤ z ∧ ¬ z ≤ 57) by omega) with b1 | ⟨b1, b2⟩
      · have i1 : ¬ (97 : Int) ≤ (y : Int) := by omega
        have j1 : ¬ (48 : Int) ≤ (z : Int) := by omega
        clear h1 h2 a1 b1
        go_enter Tryz.func44, Tryz.ntmps44
        go_wp2_with fail
        refine HL.out.mono ?_
        rintro e w2 ⟨rfl, rfl⟩
        go_wp2_with fail
        refine HI.out.mono ?_
        rintro e w2 ⟨rfl, rfl⟩
        go_wp2_with fail
        go_ret
        exact ⟨rfl, rfl⟩
      · have i1 : ¬ (97 : Int) ≤ (y : Int) := by omega
        have j1 : (48 : Int) ≤ (z : Int) := by omega
        have j2 : decide ((z : Int) ≤ 57) = false := decide_eq_false (by omega)
        clear h1 h2 a1 b1 b2
        go_enter Tryz.func44, Tryz.ntmps44
        go_wp2_with fail
        refine HL.out.mono ?_
        rintro e w2 ⟨rfl, rfl⟩
        go_wp2_with fail
        refine HI.out.mono ?_
        rintro e w2 ⟨rfl, rfl⟩
        go_wp2_with fail
        go_ret
        exact ⟨rfl, rfl⟩
      · have i1 : (97 : Int) ≤ (y : Int) := by omega
        have i2 : decide ((y : Int) ≤ 122) = false := decide_eq_false (by omega)
        have j1 : ¬ (48 : Int) ≤ (z : Int) := by omega
        clear h1 h2 a1 a2 b1
        go_enter Tryz.func44, Tryz.ntmps44
        go_wp2_with fail
        refine HL.out.mono ?_
        rintro e w2 ⟨rfl, rfl⟩
        go_wp2_with fail
        refine HI.out.mono ?_
        rintro e w2 ⟨rfl, rfl⟩
        go_wp2_with fail
        go_ret
        exact ⟨rfl, rfl⟩
      · have i1 : (97 : Int) ≤ (y : Int) := by omega
        have i2 : decide ((y : Int) ≤ 122) = false := decide_eq_false (by omega)
        have j1 : (48 : Int) ≤ (z : Int) := by omega
        have j2 : decide ((z : Int) ≤ 57) = false := decide_eq_false (by omega)
        clear h1 h2 a1 a2 b1 b2
        go_enter Tryz.func44, Tryz.ntmps44
        go_wp2_with fail
        refine HL.out.mono ?_
        rintro e w2 ⟨rfl, rfl⟩
        go_wp2_with fail
        refine HI.out.mono ?_
        rintro e w2 ⟨rfl, rfl⟩
        go_wp2_with fail
        go_ret
        exact ⟨rfl, rfl⟩
end Go.Proofs.YtghdaengkgiekaaGreatDoor.hd
