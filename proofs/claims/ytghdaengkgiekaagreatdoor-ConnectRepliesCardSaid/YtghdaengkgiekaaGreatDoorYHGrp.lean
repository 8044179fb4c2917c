/-
  Given for the seat's laws: arrays of eight groups; the contract of groupsOf. No condition but those of the theorems.
-/
import Derived.Test.YtghdaengkgiekaaGreatDoorYHV4
import Derived.StillTail
import Derived.StillTactics
import Derived.StillTailTactics
import Derived.BigQuiet
namespace Go.Proofs.YtghdaengkgiekaaGreatDoor.hw
open Go.RowKit mem hostp
set_option linter.unusedVariables false

/-- eight groups, as a row of cells -/
def gc (g : List Nat) : Array Value := (g.map fun v : Nat => Value.int .u16 ((v : Nat) : Int)).toArray
def gv (g : List Nat) : Value := .agg (gc g)
theorem eight {α : Type} {g : List α} (h : g.length = 8) : ∃ a b c d e f i j, g = [a, b, c, d, e, f, i, j] := by
  match g, h with
  | [a, b, c, d, e, f, i, j], _ => exact ⟨a, b, c, d, e, f, i, j, rfl⟩
theorem gc_get {g : List Nat} {k : Nat} (h : k < g.length) : (gc g)[k]? = some (.int .u16 ((g.getD k 0 : Nat) : Int)) := by
  unfold gc
  rw [List.getElem?_toArray, List.getElem?_map, List.getD_eq_getElem?_getD, List.getElem?_eq_getElem h]
  rfl
theorem gc_size (g : List Nat) : (gc g).size = g.length := by unfold gc; simp
theorem gc_set {g : List Nat} {k v : Nat} : (gc g).setIfInBounds k (.int .u16 (v : Int)) = gc (g.set k v) := by
  unfold gc
  apply Array.toList_inj.1
  simp [List.map_set]
/-- the eight cells of such a row -/
theorem gc_cells {w : World} {b : Nat} {t : TypeId} {g : List Nat} (h : Lies w b t (gc g)) (h8 : g.length = 8) :
    ∃ a b' c d e f i j : Int, (gc g = #[.int .u16 a, .int .u16 b', .int .u16 c, .int .u16 d, .int .u16 e, .int .u16 f, .int .u16 i, .int .u16 j]) ∧
      w.cell? ⟨b, 0, none⟩ = some (.int .u16 a) ∧ w.cell? ⟨b, 1, none⟩ = some (.int .u16 b') ∧ w.cell? ⟨b, 2, none⟩ = some (.int .u16 c) ∧ w.cell? ⟨b, 3, none⟩ = some (.int .u16 d) ∧
      w.cell? ⟨b, 4, none⟩ = some (.int .u16 e) ∧ w.cell? ⟨b, 5, none⟩ = some (.int .u16 f) ∧ w.cell? ⟨b, 6, none⟩ = some (.int .u16 i) ∧ w.cell? ⟨b, 7, none⟩ = some (.int .u16 j) := by
  obtain ⟨a, b', c, d, e, f, i, j, rfl⟩ := eight h8
  exact ⟨a, b', c, d, e, f, i, j, rfl, h.cell 0, h.cell 1, h.cell 2, h.cell 3, h.cell 4, h.cell 5, h.cell 6, h.cell 7⟩

theorem un2_get : ∀ {t : Str} {k : Nat} {a b : UInt8}, t[2 * k]? = some a → t[2 * k + 1]? = some b → (un2 t)[k]? = some (256 * a.toNat + b.toNat)
  | x :: y :: r, 0, a, b, h1, h2 => by
    simp at h1 h2
    subst h1 h2
    rfl
  | x :: y :: r, k + 1, a, b, h1, h2 => by
    show (un2 r)[k]? = _
    exact un2_get (by simpa [Nat.mul_add] using h1) (by simpa [Nat.mul_add] using h2)
  | [], k, a, b, h1, h2 => by simp at h1
  | [x], 0, a, b, h1, h2 => by simp at h2
  | [x], k + 1, a, b, h1, h2 => by simp [Nat.mul_add] at h1

/-- the first k groups have been written, the others are 0 -/
def part8 (g : List Nat) (k : Nat) : List Nat := g.take k ++ List.replicate (8 - k) 0
theorem part8_len {g : List Nat} (h8 : g.length = 8) {k : Nat} (hk : k ≤ 8) : (part8 g k).length = 8 := by unfold part8; simp; omega
theorem part8_zero (g : List Nat) : gc (part8 g 0) = #[.int .u16 0, .int .u16 0, .int .u16 0, .int .u16 0, .int .u16 0, .int .u16 0, .int .u16 0, .int .u16 0] := by
  unfold part8
  simp [gc, List.replicate]
theorem part8_step {g : List Nat} (h8 : g.length = 8) {k : Nat} (hk : k < 8) : (part8 g k).set k (g.getD k 0) = part8 g (k + 1) := by
  unfold part8
  have h1 : (g.take k).length = k := by simp; omega
  have h2 : g.take (k + 1) = g.take k ++ [g[k]] := by rw [List.take_add_one, List.getElem?_eq_getElem (show k < g.length by omega)]; rfl
  rw [List.set_append_right _ _ (by omega), h1, Nat.sub_self, show 8 - k = (8 - (k + 1)) + 1 by omega, List.replicate_succ, List.set_cons_zero, h2, List.getD_eq_getElem?_getD, List.getElem?_eq_getElem (show k < g.length by omega), Option.getD_some, List.append_assoc]
  rfl
theorem part8_end {g : List Nat} (h8 : g.length = 8) : part8 g 8 = g := by
  unfold part8
  simp [List.take_of_length_le (show g.length ≤ 8 by omega)]

theorem or_bytes (a b : Nat) (ha : a < 256) (hb : b < 256) : Nat.lor (a * 256) b = 256 * a + b := by
  have h := Nat.two_pow_add_eq_or_of_lt (i := 8) (b := b) (by omega) a
  show a * 256 ||| b = _
  rw [show a * 256 = 2 ^ 8 * a by omega, ← h]

theorem results_groups {W : World} {h : Nat} {g : List Nat} (hl : Lies W h 122 (gc g)) (h8 : g.length = 8) (tmps : Array Value) (h2 : tmps[2]?.getD undef = .pointer (some ⟨h, 0, none⟩)) :
    (results Tryz.f80 tmps).run Tryz.prog W = .ok (gv g) W := by
  obtain ⟨a, b', c, d, e, f, i, j, hg, c0, c1, c2, c3, c4, c5, c6, c7⟩ := gc_cells hl h8
  unfold gv
  rw [hg]
  simp [results, Tryz.results80, go_sem, h2, c0, c1, c2, c3, c4, c5, c6, c7]

set_option maxRecDepth 100000 in
set_option maxHeartbeats 4000000 in
theorem groupsOf_any (t : ByteArray) (h16 : t.size = 16) (w : World) : Calls Tryz.prog 80 #[.string t] w (Gives (gv (un2 t.data.toList)) w) := by
  obtain ⟨g, hg⟩ : ∃ g, g = un2 t.data.toList := ⟨_, rfl⟩
  have hl8 : g.length = 8 := by rw [hg]; exact un2_len 8 (by rw [list_len]; omega)
  have hbyte : ∀ k, (hk : k < 8) → ∃ x y : Nat, x < 256 ∧ y < 256 ∧ ((t[2 * k]'(by omega)).toNat : Int) = (x : Int) ∧ ((t[2 * k + 1]'(by omega)).toNat : Int) = (y : Int) ∧ g.getD k 0 = 256 * x + y := fun k hk => by
    refine ⟨_, _, (t[2 * k]'(by omega)).toNat_lt, (t[2 * k + 1]'(by omega)).toNat_lt, rfl, rfl, ?_⟩
    rw [hg, List.getD_eq_getElem?_getD, un2_get (byte_at (by omega)) (byte_at (by omega))]
    rfl
  rw [← hg]
  have HBY := Lib.hid hbyte
  have HL8 := Lib.hid hl8
  clear hbyte hl8 hg
  obtain ⟨w0, hw0⟩ : ∃ w0, w0 = (w.alloc (.cells #[.int .u16 0, .int .u16 0, .int .u16 0, .int .u16 0, .int .u16 0, .int .u16 0, .int .u16 0, .int .u16 0] 122)).alloc (.cells #[.int .u16 0, .int .u16 0, .int .u16 0, .int .u16 0, .int .u16 0, .int .u16 0, .int .u16 0, .int .u16 0] 122) := ⟨_, rfl⟩
  have l0 : Lies w0 w.heap.size 122 (gc (part8 g 0)) := by rw [hw0, part8_zero]; exact (Lies.new _ _ _).alloc _
  have l1 : Lies w0 (w.heap.size + 1) 122 (gc (part8 g 0)) := by
    rw [hw0, part8_zero]
    have := Lies.new (w.alloc (.cells #[.int .u16 0, .int .u16 0, .int .u16 0, .int .u16 0, .int .u16 0, .int .u16 0, .int .u16 0, .int .u16 0] 122)) 122 #[.int .u16 0, .int .u16 0, .int .u16 0, .int .u16 0, .int .u16 0, .int .u16 0, .int .u16 0, .int .u16 0]
    rwa [World.size_alloc] at this
  have hb0 : Below w.heap.size w w0 := by rw [hw0]; exact ((Below.refl _ w).alloc (Nat.le_refl _) _).alloc (by simp) _
  have L0 := Lib.hid l0
  have L1 := Lib.hid l1
  have HB0 := Lib.hid hb0
  clear l0 l1 hb0
  go_enter Tryz.func80, Tryz.ntmps80
  go_wp2
  rw [← hw0]
  clear hw0
  go_loopw [5] (fun s5 wr => ∃ k : Nat, k ≤ 8 ∧ s5 = .int .i64 (k : Int) ∧ Hid (Lies wr w.heap.size 122 (gc (part8 g 0))) ∧ Hid (Lies wr (w.heap.size + 1) 122 (gc (part8 g k))) ∧ Hid (Below w.heap.size w wr)) (fun s5 _ => 8 - (intOf s5).toNat)
  case atStart => exact ⟨0, by omega, rfl, L0.out, L1.out, HB0.out⟩
  case round =>
    clear L0 L1 HB0
    obtain ⟨k, hk, rfl, HR0, HR, HB⟩ := hrel
    by_cases hlt : k < 8
    · obtain ⟨x, y, hx, hy, e1, e2, hgk⟩ := HBY.out k hlt
      have hi1 : ∀ W, (Instr.index 9 (.string t) (.int .i64 (2 * (k : Int)))).run Tryz.prog W = .ok (.int .u8 (x : Int)) W := fun W => by
        rw [run_index_string (P := Tryz.prog) W 9 t .i64 _ Tryz.underlying9, dif_pos ⟨by omega, by omega⟩]
        have h9 : (2 * (k : Int)).toNat = 2 * k := by omega
        simp only [h9, e1]
      have hi2 : ∀ W, (Instr.index 9 (.string t) (.int .i64 (2 * (k : Int) + 1))).run Tryz.prog W = .ok (.int .u8 (y : Int)) W := fun W => by
        rw [run_index_string (P := Tryz.prog) W 9 t .i64 _ Tryz.underlying9, dif_pos ⟨by omega, by omega⟩]
        have h9 : (2 * (k : Int) + 1).toNat = 2 * k + 1 := by omega
        simp only [h9, e2]
      have hs := HR.out.set k (.int .u16 ((256 * x + y : Nat) : Int))
      rw [gc_set, ← hgk, part8_step HL8.out hlt, hgk] at hs
      have fz := HR.out.frozen k
      obtain ⟨x0, hx0⟩ : ∃ x0, wr.cell? ⟨w.heap.size + 1, k, none⟩ = some x0 := by rw [HR.out.cell k]; exact ⟨_, Array.getElem?_eq_getElem (by rw [gc_size, part8_len HL8.out hk]; omega)⟩
      have HS := Lib.hid hs
      clear hs e1 e2 hgk
      have hw1 : IntKind.i64.wrap (2 * (k : Int)) = 2 * (k : Int) := IntWalk.i64_in _ (by omega)
      have hw2 : IntKind.i64.wrap (2 * (k : Int) + 1) = 2 * (k : Int) + 1 := IntWalk.i64_in _ (by omega)
      have hw3 : IntKind.u16.wrap (x : Int) = (x : Int) := IntWalk.u16_in _ (by omega)
      have hw4 : IntKind.u16.wrap (y : Int) = (y : Int) := IntWalk.u16_in _ (by omega)
      have hw5 : IntKind.u16.wrap ((x : Int) * 256) = (x : Int) * 256 := IntWalk.u16_in _ (by omega)
      have hw6 : bits .or .u16 ((x : Int) * 256) (y : Int) = ((256 * x + y : Nat) : Int) := by
        rw [bits_join .u16 16 (by decide) (fun n h0 h1 => IntWalk.u16_in n (by omega)) 8 _ _ (by omega) (by omega) (by omega) (by omega) (by omega) (by omega)]
        omega
      obtain ⟨z, hz⟩ : ∃ z : Int, z = ((256 * x + y : Nat) : Int) := ⟨_, rfl⟩
      rw [← hz] at hw6 HS
      clear hz
      go_wp2
      go_still_tail 15, (by kernel_rfl)
      change wpList _ _ _ _ _ wr.drew
      have d0 : wr.drew.cell? ⟨w.heap.size + 1, k, none⟩ = some x0 := hx0
      have d1 : wr.drew.frozen? ⟨w.heap.size + 1, k, none⟩ = false := fz
      have q0 : Lies wr.drew w.heap.size 122 (gc (part8 g 0)) := HR0.out
      have q1 : Lies (wr.drew.setCell ⟨w.heap.size + 1, k, none⟩ (.int .u16 z)) (w.heap.size + 1) 122 (gc (part8 g (k + 1))) := HS.out
      have Q0 := Lib.hid (q0.far (p := ⟨w.heap.size + 1, k, none⟩) (by show w.heap.size ≠ w.heap.size + 1; omega) (.int .u16 z))
      have Q1 := Lib.hid q1
      have Q2 := Lib.hid ((HB.out.drew).setCell (p := ⟨w.heap.size + 1, k, none⟩) (by show w.heap.size ≤ w.heap.size + 1; omega) (.int .u16 z))
      generalize wr.drew = w2 at *
      clear hi1 hi2 hx0 fz q0 q1 hw1 hw2 hw3 hw4 hw5 hw6
      go_wp2
      go_roundw
      case rel => exact ⟨k + 1, by omega, by go_num, Q0, Q1, Q2⟩
      case measure => simp [intOf]; omega
    · obtain rfl : k = 8 := by omega
      rw [part8_end HL8.out] at HR
      obtain ⟨a, b', c, d, e, f, i, j, hgc, c0, c1, c2, c3, c4, c5, c6, c7⟩ := gc_cells HR.out HL8.out
      obtain ⟨_, _, _, _, _, _, _, _, _, e0, e1, e2, e3, e4, e5, e6, e7⟩ := gc_cells HR0.out (part8_len HL8.out (by omega))
      have f0 := fun q => HR0.out.frozen q
      have hh1 := HR0.out
      rw [part8_zero] at hh1
      have hst := (((((((hh1.set 0 (.int .u16 a)).set 1 (.int .u16 b')).set 2 (.int .u16 c)).set 3 (.int .u16 d)).set 4 (.int .u16 e)).set 5 (.int .u16 f)).set 6 (.int .u16 i)).set 7 (.int .u16 j)
      have hgc2 : gc g = ((((((((#[Value.int .u16 0, .int .u16 0, .int .u16 0, .int .u16 0, .int .u16 0, .int .u16 0, .int .u16 0, .int .u16 0] : Array Value).setIfInBounds 0 (.int .u16 a)).setIfInBounds 1 (.int .u16 b')).setIfInBounds 2 (.int .u16 c)).setIfInBounds 3 (.int .u16 d)).setIfInBounds 4 (.int .u16 e)).setIfInBounds 5 (.int .u16 f)).setIfInBounds 6 (.int .u16 i)).setIfInBounds 7 (.int .u16 j) := by rw [hgc]; simp
      rw [← hgc2] at hst
      have HST := Lib.hid hst
      have HBB := Lib.hid ((((((((HB.out.setCell (p := ⟨w.heap.size, 0, none⟩) (Nat.le_refl _) (.int .u16 a)).setCell (p := ⟨w.heap.size, 1, none⟩) (Nat.le_refl _) (.int .u16 b')).setCell (p := ⟨w.heap.size, 2, none⟩) (Nat.le_refl _) (.int .u16 c)).setCell (p := ⟨w.heap.size, 3, none⟩) (Nat.le_refl _) (.int .u16 d)).setCell (p := ⟨w.heap.size, 4, none⟩) (Nat.le_refl _) (.int .u16 e)).setCell (p := ⟨w.heap.size, 5, none⟩) (Nat.le_refl _) (.int .u16 f)).setCell (p := ⟨w.heap.size, 6, none⟩) (Nat.le_refl _) (.int .u16 i)).setCell (p := ⟨w.heap.size, 7, none⟩) (Nat.le_refl _) (.int .u16 j))
      clear hh1 hst hgc hgc2
      go_wp2
      exact bodyPost_ret (v := gv g) (results_groups HST.out HL8.out _ rfl) rfl ⟨rfl, HBB.out⟩

end Go.Proofs.YtghdaengkgiekaaGreatDoor.hw
