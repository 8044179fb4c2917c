/-
  Given for the seat's laws: the contracts of Lower and Same. No condition but those of the theorems.
-/
import Derived.Test.YtghdaengkgiekaaGreatDoorYMem
import Derived.WalkKit
import Derived.WalkSpells
import Derived.WalkLawsBesides
import Derived.IntWalk
import Derived.Outline
import Derived.Below
import Derived.Laws.IdiomStrings
import Derived.Deep.CutBlock
import Derived.Deep.DeepCutAuto
import Derived.Lib.Hide
namespace Go.Proofs.YtghdaengkgiekaaGreatDoor.lower
open Go.RowKit mem
set_option linter.unusedVariables false

def lowc (c : UInt8) : UInt8 := if 65 ≤ c.toNat ∧ c.toNat ≤ 90 then c + 32 else c
def lowL (l : List UInt8) : List UInt8 := l.map lowc
def lowS (s : ByteArray) : ByteArray := ⟨(lowL s.data.toList).toArray⟩

theorem lowc_great {c : UInt8} (h : 65 ≤ c.toNat ∧ c.toNat ≤ 90) : (lowc c).toNat = c.toNat + 32 := by
  unfold lowc
  rw [if_pos h, UInt8.toNat_add]
  have : (32 : UInt8).toNat = 32 := rfl
  omega
theorem lowc_else {c : UInt8} (h : ¬ (65 ≤ c.toNat ∧ c.toNat ≤ 90)) : lowc c = c := by unfold lowc; rw [if_neg h]
theorem lowc_no (c : UInt8) : ¬ (65 ≤ (lowc c).toNat ∧ (lowc c).toNat ≤ 90) := by
  by_cases h : 65 ≤ c.toNat ∧ c.toNat ≤ 90
  · rw [lowc_great h]
    omega
  · rw [lowc_else h]
    exact h
theorem lowc_lowc (c : UInt8) : lowc (lowc c) = lowc c := lowc_else (lowc_no c)
theorem lowS_size (s : ByteArray) : (lowS s).size = s.size := by
  have h1 : (lowS s).size = (lowL s.data.toList).toArray.size := rfl
  have h2 : s.size = s.data.size := rfl
  rw [h1, h2]
  simp [lowL]
theorem lowS_lowS (s : ByteArray) : lowS (lowS s) = lowS s := by
  unfold lowS lowL
  simp [lowc_lowc, Function.comp_def]

theorem sbyte {s : ByteArray} {k : Nat} (h : k < s.size) : s.data.toList[k]? = some s[k] := by
  rw [Array.getElem?_toList, Array.getElem?_eq_getElem (show k < s.data.size from h)]
  rfl

/-- a new row of bytes that bears the run-time's mark behind its last cell -/
def LiesM (w : World) (g : Nat) (cs : Array Value) : Prop := ∃ f, cs.size ≤ f ∧ w.heap[g]? = some (.cells cs 5 (f, f + 1))
section
variable {w w' : World} {g : Nat} {cs : Array Value}
theorem LiesM.cell (h : LiesM w g cs) (i : Nat) : w.cell? ⟨g, i, none⟩ = cs[i]? := by
  obtain ⟨f, _, h⟩ := h
  simp [World.cell?, h]
theorem LiesM.frozen (h : LiesM w g cs) {i : Nat} (hi : i < cs.size) : w.frozen? ⟨g, i, none⟩ = false := by
  obtain ⟨f, hf, h⟩ := h
  simp [World.frozen?, h]
  omega
theorem LiesM.set (h : LiesM w g cs) (i : Nat) (u : Value) : LiesM (w.setCell ⟨g, i, none⟩ u) g (cs.setIfInBounds i u) := by
  obtain ⟨f, hf, h⟩ := h
  refine ⟨f, by simpa using hf, ?_⟩
  simp [World.setCell, Array.getElem?_modify, h]
theorem LiesM.lt (h : LiesM w g cs) : g < w.heap.size := by
  obtain ⟨f, hf, h⟩ := h
  exact (Array.getElem?_eq_some_iff.1 h).1
end

def B8u (l : List UInt8) : List Value := l.map fun c => Value.int .u8 (c.toNat : Int)
/-- the row when k bytes have been looked at -/
def rowAt (l : List UInt8) (k : Nat) (rest : Array Value) : Array Value := (B8u (lowL (l.take k) ++ l.drop k)).toArray ++ rest

theorem rowAt_get {l : List UInt8} {k : Nat} {rest : Array Value} {c : UInt8} (h : l[k]? = some c) : (rowAt l k rest)[k]? = some (.int .u8 (c.toNat : Int)) := by
  have hlt := (List.getElem?_eq_some_iff.1 h).1
  unfold rowAt
  rw [Array.getElem?_append_left (by simp [B8u, lowL]; omega)]
  have hm : (lowL (l.take k)).length = k := by simp [lowL]; omega
  simp only [List.getElem?_toArray, B8u, List.getElem?_map]
  rw [List.getElem?_append_right (by omega), hm, Nat.sub_self, List.getElem?_drop, Nat.add_zero, h]
  rfl
theorem rowAt_size (l : List UInt8) (k : Nat) (rest : Array Value) : (rowAt l k rest).size = l.length + rest.size := by
  unfold rowAt
  simp [B8u, lowL]
  omega
theorem rowAt_succ {l : List UInt8} {k : Nat} {rest : Array Value} {c : UInt8} (h : l[k]? = some c) : (rowAt l k rest).setIfInBounds k (.int .u8 ((lowc c).toNat : Int)) = rowAt l (k + 1) rest := by
  have hlt := (List.getElem?_eq_some_iff.1 h).1
  apply Array.ext_getElem?
  intro i
  rw [Array.getElem?_setIfInBounds, rowAt_size]
  by_cases hik : k = i
  · subst hik
    rw [if_pos rfl, if_pos (by omega)]
    unfold rowAt
    rw [Array.getElem?_append_left (by simp [B8u, lowL]; omega)]
    have hm : (lowL (l.take (k + 1))).length = k + 1 := by simp [lowL]; omega
    simp only [List.getElem?_toArray, B8u, List.getElem?_map]
    rw [List.getElem?_append_left (by omega)]
    unfold lowL
    rw [List.getElem?_map, List.getElem?_take, if_pos (by omega), h]
    rfl
  · rw [if_neg hik]
    have hm : (lowL (l.take k)).length = k := by simp [lowL]; omega
    have hm1 : (lowL (l.take (k + 1))).length = k + 1 := by simp [lowL]; omega
    by_cases hil : i < l.length
    · unfold rowAt
      rw [Array.getElem?_append_left (by simp [B8u, lowL]; omega), Array.getElem?_append_left (by simp [B8u, lowL]; omega)]
      simp only [List.getElem?_toArray, B8u, List.getElem?_map]
      congr 1
      by_cases hi : i < k
      · rw [List.getElem?_append_left (by omega), List.getElem?_append_left (by omega)]
        unfold lowL
        rw [List.getElem?_map, List.getElem?_map, List.getElem?_take, List.getElem?_take, if_pos hi, if_pos (by omega)]
      · rw [List.getElem?_append_right (by omega), List.getElem?_append_right (by omega), hm, hm1, List.getElem?_drop, List.getElem?_drop]
        congr 1
        omega
    · unfold rowAt
      rw [Array.getElem?_append_right (by simp [B8u, lowL]; omega), Array.getElem?_append_right (by simp [B8u, lowL]; omega)]
      congr 1
      simp [B8u, lowL]
      omega
theorem rowAt_keep {l : List UInt8} {k : Nat} {rest : Array Value} {c : UInt8} (h : l[k]? = some c) (hc : lowc c = c) : rowAt l k rest = rowAt l (k + 1) rest := by
  have hlt := (List.getElem?_eq_some_iff.1 h).1
  unfold rowAt
  congr 3
  rw [List.take_add_one, h, List.drop_eq_getElem_cons hlt]
  have : l[k] = c := (List.getElem?_eq_some_iff.1 h).2
  simp [lowL, hc, this]
theorem rowAt_end {l : List UInt8} {rest : Array Value} {j : Nat} (hj : j < (lowL l).length) : (rowAt l l.length rest)[j]? = some (.int .u8 ((lowL l)[j].toNat : Int)) := by
  have hl : (lowL l).length = l.length := by simp [lowL]
  unfold rowAt
  rw [Array.getElem?_append_left (by simp [B8u, lowL]; omega)]
  rw [List.take_of_length_le (Nat.le_refl _), List.drop_eq_nil_of_le (Nat.le_refl _), List.append_nil]
  simp only [List.getElem?_toArray, B8u, List.getElem?_map]
  rw [List.getElem?_eq_getElem hj]
  rfl

def Lowered (s : ByteArray) (w : World) (e : Ending) (w' : World) : Prop := e = .returned (.string (lowS s)) ∧ Below w.heap.size w w'

set_option maxRecDepth 100000 in
set_option maxHeartbeats 2000000 in
theorem lower_any (s : ByteArray) (hs : s.size ≤ 3000) (w : World) : Calls Tryz.prog 132 #[.string s] w (Lowered s w) := by
  have hconv := run_bytes_of_string (P := Tryz.prog) w 9 29 5 s Tryz.underlying9 Tryz.underlying29 Tryz.underlying5
  have hl : s.data.toList.length = s.size := by simp
  obtain ⟨cap, hcap⟩ : ∃ cap, cap = grownCap w s.size 0 5 := ⟨_, rfl⟩
  rw [← hcap] at hconv
  obtain ⟨w0, hw0⟩ : ∃ w0, w0 = w.drew.alloc (.cells (bytesRow s cap) 5 ((bytesRow s cap).size, (bytesRow s cap).size + 1)) := ⟨_, rfl⟩
  rw [← hw0] at hconv
  obtain ⟨rest, hrest⟩ : ∃ rest : Array Value, bytesRow s cap = rowAt s.data.toList 0 rest := ⟨Array.replicate (cap - s.size) (.int .u8 0), by
    unfold bytesRow rowAt B8u lowL
    simp only [List.take_zero, List.map_nil, List.nil_append, List.drop_zero]
    congr 1
    apply Array.ext'
    simp⟩
  have h0 : LiesM w0 w.heap.size (rowAt s.data.toList 0 rest) := by
    refine ⟨(bytesRow s cap).size, by rw [hrest]; exact Nat.le_refl _, ?_⟩
    rw [hw0, ← hrest]
    exact heap_alloc_new w.drew _
  have hb0 : Below w.heap.size w w0 := by
    rw [hw0]
    exact ((Still.drew1 w).below _).alloc (Nat.le_refl _) _
  have H0 := Lib.hid h0
  have HB0 := Lib.hid hb0
  have HL := Lib.hid hl
  have hsz : w.heap.size < w0.heap.size := h0.lt
  clear h0 hb0 hl hw0 hrest hcap
  go_enter Tryz.func132, Tryz.ntmps132
  go_wp2
  go_loopw [10] (fun i wr => ∃ k : Nat, k ≤ s.size ∧ i = .int .i64 (k : Int) ∧ Hid (LiesM wr w.heap.size (rowAt s.data.toList k rest)) ∧ Hid (Below w.heap.size w wr)) (fun i _ => s.size - (intOf i).toNat)
  case atStart => exact ⟨0, by omega, rfl, H0.out, HB0.out⟩
  case round =>
    clear H0 HB0 hconv
    obtain ⟨k, hk, rfl, HR, HB⟩ := hrel
    by_cases hlt : k < s.size
    · obtain ⟨b, hb⟩ : ∃ b : UInt8, b = s[k] := ⟨_, rfl⟩
      have hbk : s.data.toList[k]? = some b := by rw [sbyte hlt, hb]
      have HK := Lib.hid hbk
      have hc : wr.cell? ⟨w.heap.size, k, none⟩ = some (.int .u8 (b.toNat : Int)) := (HR.out.cell k).trans (rowAt_get hbk)
      have hfz : wr.frozen? ⟨w.heap.size, k, none⟩ = false := HR.out.frozen (by rw [rowAt_size, HL.out]; omega)
      obtain ⟨c, hcc⟩ : ∃ c : Int, c = (b.toNat : Int) := ⟨_, rfl⟩
      rw [← hcc] at hc
      have HC := Lib.hid hcc
      clear hbk hb hcc
      have hkl : (k : Int) < (s.size : Int) := by omega
      by_cases hg : 65 ≤ c ∧ c ≤ 90
      · obtain ⟨hg1, hg2⟩ := hg
        have e1 : IntKind.u8.wrap (c - 65) = c - 65 := IntWalk.u8_in _ (by omega)
        have e2 : IntKind.u8.wrap (c - 65 + 97) = c + 32 := by rw [IntWalk.u8_in _ (by omega)]; omega
        have hset := HR.out.set k (.int .u8 (c + 32))
        have hlow : (c + 32 : Int) = ((lowc b).toNat : Int) := by have := HC.out; rw [lowc_great (by omega)]; omega
        rw [hlow, rowAt_succ HK.out, ← hlow] at hset
        have HS := Lib.hid hset
        have HB2 := Lib.hid (HB.out.setCell (p := ⟨w.heap.size, k, none⟩) (Nat.le_refl _) (.int .u8 (c + 32)))
        clear hset hlow
        go_wp2
        go_roundw
        case rel => exact ⟨k + 1, by omega, by go_num, HS, HB2⟩
        case measure => simp [intOf]; omega
      · have hr := HR.out
        rw [rowAt_keep HK.out (lowc_else (by have := HC.out; omega))] at hr
        have HR2 := Lib.hid hr
        clear hr
        have hcase : c < 65 ∨ 90 < c := by omega
        clear hg
        rcases hcase with hg | hg
        · go_wp2
          go_roundw
          case rel => exact ⟨k + 1, by omega, by go_num, HR2, HB⟩
          case measure => simp [intOf]; omega
        · have hg0 : 65 ≤ c := by omega
          have hg1 : ¬ c ≤ 90 := by omega
          go_wp2
          go_roundw
          case rel => exact ⟨k + 1, by omega, by go_num, HR2, HB⟩
          case measure => simp [intOf]; omega
    · obtain rfl : k = s.size := by omega
      have hll : (lowL s.data.toList).length = s.size := by unfold lowL; rw [List.length_map, HL.out]
      have hback := run_convert_bytes_back (P := Tryz.prog) wr 29 9 5 ⟨w.heap.size, 0, none⟩ cap (lowL s.data.toList) Tryz.underlying29 Tryz.underlying5 Tryz.underlying9 (fun j hj => by
        have := (HR.out.cell j)
        rw [← HL.out, rowAt_end hj] at this
        by_cases h0 : j = 0
        · subst h0; simpa [Addr.add] using this
        · simpa [Addr.add, h0] using this)
      rw [hll] at hback
      change Sem.run Tryz.prog _ wr = Result.ok (Value.string (lowS s)) wr at hback
      obtain ⟨t, ht⟩ : ∃ t, t = lowS s := ⟨_, rfl⟩
      rw [← ht] at hback
      have HT := Lib.hid ht
      clear ht
      go_wp2
      go_ret
      exact ⟨by rw [← HT.out]; rfl, HB.out⟩

end Go.Proofs.YtghdaengkgiekaaGreatDoor.lower
