/-
  Given for the seat's laws: the contracts of the halves of a key, of a score, of Chance and Score. No condition but those of the theorems.
-/
import Derived.Test.YtimlcjdpnhhjdaaRDraw
import Derived.Test.YtimlcjdpnhhjdaaRSc
namespace Go.Proofs.Ytimlcjdpnhhjdaa.rk
open Go.RowKit mem sp
set_option linter.unusedVariables false

/-- what stands in two cells of the call's own, and the rest as it was -/
structure HW (w : World) (t : TypeId) (r s : Array Value) (wr : World) : Prop where
  ret : Lies wr w.heap.size t r
  st : Lies wr (w.heap.size + 1) t s
  below : Below w.heap.size w wr
section
variable {w wr w2 : World} {t : TypeId} {r s r' s' : Array Value}
theorem HW.start (w : World) (t : TypeId) (r s : Array Value) : HW w t r s ((w.alloc (.cells r t)).alloc (.cells s t)) := by
  refine ⟨(Lies.new w t r).alloc _, ?_, ((Below.refl _ _).alloc (Nat.le_refl _) _).alloc (by simp) _⟩
  have := Lies.new (w.alloc (.cells r t)) t s
  simpa using this
theorem HW.set (h : HW w t r s wr) (i : Nat) (x : Value) (e : s.setIfInBounds i x = s') : HW w t r s' (wr.setCell ⟨w.heap.size + 1, i, none⟩ x) :=
  ⟨h.ret.far (p := ⟨w.heap.size + 1, i, none⟩) (by show w.heap.size ≠ w.heap.size + 1; omega) _, by rw [← e]; exact h.st.set i _, h.below.setCell (p := ⟨w.heap.size + 1, i, none⟩) (by show w.heap.size ≤ w.heap.size + 1; omega) _⟩
theorem HW.setr (h : HW w t r s wr) (i : Nat) (x : Value) (e : r.setIfInBounds i x = r') : HW w t r' s (wr.setCell ⟨w.heap.size, i, none⟩ x) :=
  ⟨by rw [← e]; exact h.ret.set i _, h.st.far (p := ⟨w.heap.size, i, none⟩) (by show w.heap.size + 1 ≠ w.heap.size; omega) _, h.below.setCell (p := ⟨w.heap.size, i, none⟩) (Nat.le_refl _) _⟩
theorem HW.fresh (h : HW w t r s wr) (hb : Below wr.heap.size wr w2) : HW w t r s w2 :=
  ⟨h.ret.below hb h.ret.lt, h.st.below hb h.st.lt, h.below.trans (hb.mono h.below.size)⟩
theorem HW.name (h : HW w t r s wr) : ∃ wz, HW w t r s wz ∧ Bx (wr = wz) := ⟨wr, h, ⟨rfl⟩⟩
end
abbrev two (a b : W64) : Array Value := #[.int .u64 (num a), .int .u64 (num b)]
def HalfTo (key : Str) (w : World) (e : Ending) (w' : World) : Prop := e = .returned (hv (hk 0 key) (hk 1 key)) ∧ Below w.heap.size w w'

def hh (key : Str) (i : Nat) : Array Value := #[.int .u64 (if 0 < i then num (hk 0 key) else 0), .int .u64 (if 1 < i then num (hk 1 key) else 0)]

set_option maxHeartbeats 4000000 in
set_option maxRecDepth 100000 in
theorem halves_any {w : World} {ok : Nat → Prop} {A : Option Addr} {n c : Nat} {key : Str} (hs : Spell w ok A n c key) (hok : ∀ g, ok g → g < w.heap.size) : Calls Try.prog 22 #[.slice A n c] w (HalfTo key w) := by
  have HS := Bx.mk hs
  have HOK := Bx.mk hok
  have HSUM : Bx (∀ (i : Nat) W, Below w.heap.size w W → Calls Try.prog 29 #[.int .u64 (num (mk i)), .int .u64 0, .slice A n c] W (SumTo (mk i) (mk 0) key W)) := ⟨fun i W hW => by
    have := sum_any (mk i) (mk 0) (hs.below hW hok) (fun g hg => Nat.lt_of_lt_of_le (hok g hg) hW.size)
    have e : num (mk 0) = 0 := by rw [num_mk (by omega)]; rfl
    rwa [e] at this⟩
  have h0 := Bx.mk (HW.start w 49 (hh key 0) (hh key 0))
  have hA0 : hh key 0 = #[.int .u64 0, .int .u64 0] := by simp [hh]
  rw [hA0] at h0
  clear hs hok
  go_enter Try.func22, Try.ntmps22
  go_wp2
  go_loopw [5] (fun s5 wr => ∃ i : Nat, i ≤ 2 ∧ s5 = .int .i64 (i : Int) ∧ Bx (HW w 49 #[.int .u64 0, .int .u64 0] (hh key i) wr)) (fun s5 _ => 2 - (intOf s5).toNat)
  case atStart => exact ⟨0, by omega, rfl, by rw [hA0]; exact h0⟩
  case round =>
    clear h0
    obtain ⟨i, hi, rfl, HM⟩ := hrel
    by_cases hlt : i < 2
    · have hwr : IntKind.u64.wrap (i : Int) = num (mk i) := by rw [num_mk (by omega), IntKind.wrap_u64]; omega
      have HSI := Bx.mk (HSUM.out i)
      generalize hm : mk i = m at hwr HSI
      have hB := HM.out.below
      go_wp2_with fail
      refine (HSI.out _ hB).mono ?_
      rintro e w2 ⟨rfl, hb⟩
      have H2 := Bx.mk (HM.out.fresh hb)
      have hcell : ∃ v, w2.cell? ⟨w.heap.size + 1, i, none⟩ = some v := ⟨_, by
        rw [H2.out.st.cell, Array.getElem?_eq_getElem (by simp [hh]; omega)]⟩
      obtain ⟨v, hv⟩ := hcell
      have hf := H2.out.st.frozen i
      have hset : (hh key i).setIfInBounds i (.int .u64 (num (hsum m (mk 0) key))) = hh key (i + 1) := by
        subst hm
        unfold hh
        rcases (show i = 0 ∨ i = 1 by omega) with rfl | rfl <;> simp [hk]
      have H3 := Bx.mk (H2.out.set i _ hset)
      have i1 : (0 : Int) ≤ (i : Int) := by omega
      have i2 : (i : Int) < 2 := by omega
      clear hB hb hwr hset hm
      go_wp2_with fail
      go_roundw
      case rel => exact ⟨i + 1, by omega, by go_num, H3⟩
      case measure => simp [intOf]; omega
    · obtain rfl : i = 2 := by omega
      have hz : hh key 2 = two (hk 0 key) (hk 1 key) := by simp [hh]
      rw [hz] at HM
      have c0 := HM.out.st.cell 0
      have c1 := HM.out.st.cell 1
      have y0 := HM.out.ret.cell 0
      have y1 := HM.out.ret.cell 1
      have z0 := HM.out.ret.frozen 0
      have z1 := HM.out.ret.frozen 1
      simp at c0 c1 y0 y1
      obtain ⟨wz, H4, hz4⟩ := ((HM.out.setr 0 (.int .u64 (num (hk 0 key))) rfl).setr (r' := two (hk 0 key) (hk 1 key)) 1 (.int .u64 (num (hk 1 key))) rfl).name
      go_wp2_with fail
      rw [hz4.out]
      have k0 := H4.ret.cell 0
      have k1 := H4.ret.cell 1
      simp at k0 k1
      exact bodyPost_ret (v := hv (hk 0 key) (hk 1 key)) (by simp [results, Try.results22, go_sem, k0, k1]) rfl ⟨rfl, H4.below⟩
end Go.Proofs.Ytimlcjdpnhhjdaa.rk
