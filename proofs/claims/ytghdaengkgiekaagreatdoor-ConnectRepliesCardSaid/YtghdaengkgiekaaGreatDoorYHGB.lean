/-
  Given for the seat's laws: the contract of the bytes of groups. No condition but those of the theorems.
-/
import Derived.Test.YtghdaengkgiekaaGreatDoorYHPG
import Derived.RegionTactic
import Derived.ChangeAlike
import Derived.BigRegion
namespace Go.Proofs.YtghdaengkgiekaaGreatDoor.hw
open Go.RowKit mem hostp
set_option linter.unusedVariables false

/-- the numbers of groups' bytes -/
def bn2 : List Nat → List Nat
  | [] => []
  | v :: g => v / 256 :: v % 256 :: bn2 g
theorem bn2_len : ∀ g : List Nat, (bn2 g).length = 2 * g.length
  | [] => rfl
  | v :: g => by simp [bn2, bn2_len g]; omega
theorem bn2_app : ∀ a b : List Nat, bn2 (a ++ b) = bn2 a ++ bn2 b
  | [], b => rfl
  | v :: a, b => by simp [bn2, bn2_app a b]
theorem bn2_by2 : ∀ g : List Nat, (bn2 g).map UInt8.ofNat = by2 g
  | [] => rfl
  | v :: g => by simp [bn2, by2, bn2_by2 g]
theorem bn2_lt : ∀ {g : List Nat}, (∀ v ∈ g, v < 65536) → ∀ n ∈ bn2 g, n ≤ 255
  | [], _, n, h => by simp [bn2] at h
  | v :: g, hg, n, h => by
    have h1 := hg v (by simp)
    simp only [bn2, List.mem_cons] at h
    rcases h with rfl | rfl | h
    · omega
    · omega
    · exact bn2_lt (fun u hu => hg u (by simp [hu])) n h

theorem bcells_str {m : Nat} {b : List Nat} (h : b.length = m) (h255 : ∀ n ∈ b, n ≤ 255) (W : World) (g : Nat) (t : TypeId) (hl : Lies W g t (bcells m b)) (cap : Nat) : (convert 29 9 (.slice (some ⟨g, 0, none⟩) m cap)).run Tryz.prog W = .ok (.string (S (b.map UInt8.ofNat))) W := by
  have hm : (b.map UInt8.ofNat).length = m := by rw [List.length_map, h]
  rw [← hm]
  exact run_convert_bytes_back (P := Tryz.prog) W 29 9 5 ⟨g, 0, none⟩ cap (b.map UInt8.ofNat) Tryz.underlying29 Tryz.underlying5 Tryz.underlying9 (fun j hj => by
    have hj' : j < b.length := by simpa using hj
    have e : (Addr.add ⟨g, 0, none⟩ j) = ⟨g, j, none⟩ := by by_cases h0 : j = 0 <;> simp [Addr.add, h0]
    rw [e, hl.cell, bcells_at h, List.getElem?_eq_getElem hj']
    have := h255 b[j] (List.getElem_mem _)
    simp
    omega)
theorem bcells_zero : bcells 16 [] = #[.int .u8 0, .int .u8 0, .int .u8 0, .int .u8 0, .int .u8 0, .int .u8 0, .int .u8 0, .int .u8 0, .int .u8 0, .int .u8 0, .int .u8 0, .int .u8 0, .int .u8 0, .int .u8 0, .int .u8 0, .int .u8 0] := by
  unfold bcells
  simp [List.replicate]

set_option maxRecDepth 100000 in
set_option maxHeartbeats 1600000 in
theorem bytes_any (g : List Nat) (h8 : g.length = 8) (hlt : ∀ v ∈ g, v < 65536) (w : World) : Calls Tryz.prog 149 #[gv g] w (Gives (.string (S (by2 g))) w) := by
  obtain ⟨w0, hw0⟩ : ∃ w0, w0 = (w.alloc (.cells (gc g) 122)).alloc (.cells #[.int .u8 0, .int .u8 0, .int .u8 0, .int .u8 0, .int .u8 0, .int .u8 0, .int .u8 0, .int .u8 0, .int .u8 0, .int .u8 0, .int .u8 0, .int .u8 0, .int .u8 0, .int .u8 0, .int .u8 0, .int .u8 0] 187) := ⟨_, rfl⟩
  have l0 : Lies w0 w.heap.size 122 (gc g) := by rw [hw0]; exact (Lies.new _ _ _).alloc _
  have l1 : Lies w0 (w.heap.size + 1) 187 (bcells 16 (bn2 (g.take 0))) := by
    rw [hw0, List.take_zero, show bn2 [] = [] from rfl, bcells_zero]
    have := Lies.new (w.alloc (.cells (gc g) 122)) 187 #[.int .u8 0, .int .u8 0, .int .u8 0, .int .u8 0, .int .u8 0, .int .u8 0, .int .u8 0, .int .u8 0, .int .u8 0, .int .u8 0, .int .u8 0, .int .u8 0, .int .u8 0, .int .u8 0, .int .u8 0, .int .u8 0]
    rwa [World.size_alloc] at this
  have hb0 : Below w.heap.size w w0 := by rw [hw0]; exact ((Below.refl _ w).alloc (Nat.le_refl _) _).alloc (by simp) _
  have L0 := Bx.mk l0
  have L1 := Bx.mk l1
  have HB0 := Bx.mk hb0
  have H8 := Bx.mk h8
  have HLT := Bx.mk hlt
  clear l0 l1 hb0 hlt
  obtain ⟨cs, hcs⟩ : ∃ cs, cs = gc g := ⟨_, rfl⟩
  have hcs8 : cs.size = 8 := by rw [hcs, gc_size, h8]
  unfold gv
  rw [← hcs]
  rw [← hcs] at hw0
  have HCS := Bx.mk hcs
  clear hcs h8
  go_enter Tryz.func149, Tryz.ntmps149
  go_wp2
  rw [← hw0]
  clear hw0
  go_loopw [5] (fun s5 wr => ∃ k : Nat, k ≤ 8 ∧ s5 = .int .i64 (k : Int) ∧ Bx (Lies wr w.heap.size 122 (gc g)) ∧ Bx (Lies wr (w.heap.size + 1) 187 (bcells 16 (bn2 (g.take k)))) ∧ Bx (Below w.heap.size w wr)) (fun s5 _ => 8 - (intOf s5).toNat)
  case atStart => exact ⟨0, by omega, rfl, L0, L1, HB0⟩
  case round =>
    clear L0 L1 HB0
    obtain ⟨k, hk, rfl, HG, HR, HB⟩ := hrel
    by_cases hlt : k < 8
    · obtain ⟨v, hv⟩ : ∃ v, g[k]? = some v := ⟨_, List.getElem?_eq_getElem (by rw [H8.out]; exact hlt)⟩
      have hv16 := HLT.out v (List.mem_of_getElem? hv)
      have htk : bn2 (g.take (k + 1)) = bn2 (g.take k) ++ [v / 256] ++ [v % 256] := by
        rw [List.take_add_one, hv, bn2_app]
        simp [bn2]
      have htl : (bn2 (g.take k)).length = 2 * k := by rw [bn2_len, List.length_take, H8.out]; omega
      have hc := HG.out.cell k
      rw [gc_get (by rw [H8.out]; exact hlt), show g.getD k 0 = v by rw [List.getD_eq_getElem?_getD, hv]; rfl] at hc
      have s1 := bcells_step (m := 16) (b := bn2 (g.take k)) (by omega) (v / 256)
      rw [htl] at s1
      have s2 := bcells_step (m := 16) (b := bn2 (g.take k) ++ [v / 256]) (by simp; omega) (v % 256)
      rw [List.length_append, htl, show [v / 256].length = 1 from rfl, ← htk] at s2
      have l1 := HR.out.set (2 * k) (.int .u8 ((v / 256 : Nat) : Int))
      rw [s1] at l1
      have l2 := l1.set (2 * k + 1) (.int .u8 ((v % 256 : Nat) : Int))
      rw [s2] at l2
      have f1 := HR.out.frozen (2 * k)
      have f2 := l1.frozen (2 * k + 1)
      obtain ⟨x1, hx1⟩ : ∃ x1, wr.cell? ⟨w.heap.size + 1, 2 * k, none⟩ = some x1 := by rw [HR.out.cell]; exact ⟨_, Array.getElem?_eq_getElem (by rw [bcells_size (by omega)]; omega)⟩
      obtain ⟨x2, hx2⟩ : ∃ x2, (wr.setCell ⟨w.heap.size + 1, 2 * k, none⟩ (.int .u8 ((v / 256 : Nat) : Int))).cell? ⟨w.heap.size + 1, 2 * k + 1, none⟩ = some x2 := by rw [l1.cell]; exact ⟨_, Array.getElem?_eq_getElem (by rw [bcells_size (by simp; omega)]; omega)⟩
      have hG2 := (HG.out.far (p := ⟨w.heap.size + 1, 2 * k, none⟩) (by show w.heap.size ≠ w.heap.size + 1; omega) (.int .u8 ((v / 256 : Nat) : Int))).far (p := ⟨w.heap.size + 1, 2 * k + 1, none⟩) (by show w.heap.size ≠ w.heap.size + 1; omega) (.int .u8 ((v % 256 : Nat) : Int))
      have hB2 := (HB.out.setCell (p := ⟨w.heap.size + 1, 2 * k, none⟩) (by show w.heap.size ≤ w.heap.size + 1; omega) (.int .u8 ((v / 256 : Nat) : Int))).setCell (p := ⟨w.heap.size + 1, 2 * k + 1, none⟩) (by show w.heap.size ≤ w.heap.size + 1; omega) (.int .u8 ((v % 256 : Nat) : Int))
      have w1 : IntKind.u8.wrap ((v : Int) / 256) = ((v / 256 : Nat) : Int) := by rw [IntKind.wrap_u8]; omega
      have w2 : IntKind.u8.wrap (v : Int) = ((v % 256 : Nat) : Int) := by rw [IntKind.wrap_u8]; omega
      obtain ⟨p, hp⟩ : ∃ p : Int, p = ((v / 256 : Nat) : Int) := ⟨_, rfl⟩
      obtain ⟨q, hq⟩ : ∃ q : Int, q = ((v % 256 : Nat) : Int) := ⟨_, rfl⟩
      rw [← hp] at w1 l1 l2 f2 hx2 hG2 hB2
      rw [← hq] at w2 l2 hG2 hB2
      have L2 := Bx.mk l2
      have G2 := Bx.mk hG2
      have B2 := Bx.mk hB2
      have hw1 : IntKind.i64.wrap (2 * (k : Int)) = 2 * (k : Int) := IntWalk.i64_in _ (by omega)
      have hw2 : IntKind.i64.wrap (2 * (k : Int) + 1) = 2 * (k : Int) + 1 := IntWalk.i64_in _ (by omega)
      have hw3 : (2 * (k : Int)).toNat = 2 * k := by omega
      have hw4 : (2 * (k : Int) + 1).toNat = 2 * k + 1 := by omega
      have hw5 : 0 ≤ 2 * (k : Int) := by omega
      have hw6 : 2 * (k : Int) < 16 := by omega
      have hw7 : 2 * (k : Int) + 1 < 16 := by omega
      clear hp hq l1 l2 hG2 hB2 s1 s2 htk htl hv
      go_wp2
      go_region
      go_wp2
      go_roundw
      case rel => exact ⟨k + 1, by omega, by go_num, Bx.mk G2.out.drew, Bx.mk L2.out.drew, Bx.mk B2.out.drew⟩
      case measure => simp [intOf]; omega
    · obtain rfl : k = 8 := by omega
      have htl : (bn2 (g.take 8)).length = 16 := by rw [bn2_len, List.length_take, H8.out]; rfl
      have htk : g.take 8 = g := List.take_of_length_le (by rw [H8.out]; omega)
      have hl16 := HR.out
      rw [htk] at hl16 htl
      have hconv := bcells_str htl (bn2_lt HLT.out) wr (w.heap.size + 1) _ hl16 16
      rw [bn2_by2] at hconv
      clear hl16 htl htk
      go_wp2
      go_ret
      exact ⟨rfl, HB.out⟩
end Go.Proofs.YtghdaengkgiekaaGreatDoor.hw
