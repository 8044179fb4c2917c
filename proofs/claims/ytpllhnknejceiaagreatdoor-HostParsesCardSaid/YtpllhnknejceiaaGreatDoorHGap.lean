/-
  Given for the seat's laws: the longest row of noughts, as the program finds it: the contract of gap. No condition but those of the theorems.
-/
import Derived.Test.YtpllhnknejceiaaGreatDoorHGrp
namespace Go.Proofs.YtpllhnknejceiaaGreatDoor.hw
open Go.RowKit mem hostp
set_option linter.unusedVariables false

/-! ### over which groups are 0 alone -/
def zrB : List Bool → Nat
  | [] => 0
  | v :: g => if v then zrB g + 1 else 0
def bstB (g : List Bool) : Nat → Nat × Nat
  | 0 => (0, 0)
  | k + 1 => if zrB (g.drop k) > (bstB g k).2 ∧ 2 ≤ zrB (g.drop k) then (k, zrB (g.drop k)) else bstB g k
def isz (g : List Nat) : List Bool := g.map fun v => decide (v = 0)
theorem zr_isz : ∀ g : List Nat, zr g = zrB (isz g)
  | [] => rfl
  | v :: g => by
    show (if v = 0 then zr g + 1 else 0) = if decide (v = 0) then zrB (isz g) + 1 else 0
    rw [zr_isz g]
    by_cases h : v = 0 <;> simp [h]
theorem bst_isz (g : List Nat) : ∀ k, bst g k = bstB (isz g) k
  | 0 => rfl
  | k + 1 => by
    show (if zr (g.drop k) > (bst g k).2 ∧ 2 ≤ zr (g.drop k) then (k, zr (g.drop k)) else bst g k) = _
    rw [bst_isz g k, zr_isz, show isz (g.drop k) = (isz g).drop k by simp [isz, List.map_drop]]
    rfl
/-- the program's way: where the row began, from where, and up to where, the longest one goes -/
def gs (z : List Bool) : Nat → Nat × Nat × Nat
  | 0 => (0, 0, 0)
  | k + 1 => if (z.getD k false) = false then (k + 1, (gs z k).2) else if 2 ≤ k + 1 - (gs z k).1 ∧ k + 1 - (gs z k).1 > (gs z k).2.2 - (gs z k).2.1 then ((gs z k).1, (gs z k).1, k + 1) else gs z k
theorem gs_ok (z : List Bool) : ∀ k, (gs z k).1 ≤ k ∧ (gs z k).2.1 ≤ (gs z k).2.2 ∧ (gs z k).2.2 ≤ k
  | 0 => by simp [gs]
  | k + 1 => by
    obtain ⟨h1, h2, h3⟩ := gs_ok z k
    unfold gs
    split
    · exact ⟨Nat.le_refl _, h2, by dsimp only; omega⟩
    · split
      · exact ⟨by dsimp only; omega, by dsimp only; omega, Nat.le_refl _⟩
      · exact ⟨by omega, h2, by omega⟩
theorem gs_bst8 : ∀ a b c d e f i j : Bool, ((gs [a, b, c, d, e, f, i, j] 8).2.1 = (bstB [a, b, c, d, e, f, i, j] 8).1 ∧ (gs [a, b, c, d, e, f, i, j] 8).2.2 = (bstB [a, b, c, d, e, f, i, j] 8).1 + (bstB [a, b, c, d, e, f, i, j] 8).2) := by
  decide +kernel
theorem gs_bst {g : List Nat} (h8 : g.length = 8) : (gs (isz g) 8).2.1 = (bst g 8).1 ∧ (gs (isz g) 8).2.2 = (bst g 8).1 + (bst g 8).2 := by
  obtain ⟨a, b, c, d, e, f, i, j, hz⟩ := eight (g := isz g) (by simpa [isz] using h8)
  rw [bst_isz, hz]
  exact gs_bst8 a b c d e f i j

set_option maxRecDepth 100000 in
set_option maxHeartbeats 4000000 in
theorem gap_any (g : List Nat) (h8 : g.length = 8) (w : World) : Calls Tryz.prog 55 #[gv g] w (Gives (.tuple #[.int .i64 ((bst g 8).1 : Int), .int .i64 (((bst g 8).1 + (bst g 8).2 : Nat) : Int)]) w) := by
  obtain ⟨hb1, hb2⟩ := gs_bst h8
  rw [← hb2, ← hb1]
  have hl := Lies.new w 65 (gc g)
  have hb := (Below.refl _ w).alloc (Nat.le_refl _) (.cells (gc g) 65)
  obtain ⟨z, hz⟩ : ∃ z, z = isz g := ⟨_, rfl⟩
  rw [← hz]
  have HL := Lib.hid hl
  have HB := Lib.hid hb
  have H8 := Lib.hid h8
  have HZ := Lib.hid hz
  unfold gv
  obtain ⟨cs, hcs⟩ : ∃ cs, cs = gc g := ⟨_, rfl⟩
  have HCS := Lib.hid hcs
  rw [← hcs] at HL HB ⊢
  clear hl hb hb1 hb2 h8 hz hcs
  go_enter Tryz.func55, Tryz.ntmps55
  go_wp2
  obtain ⟨w0, hw0⟩ : ∃ w0, w0 = w.alloc (.cells cs 65) := ⟨_, rfl⟩
  rw [← hw0] at HL HB ⊢
  clear hw0
  go_loop [2, 3, 4, 7] (fun s2 s3 s4 s7 => ∃ k s f t : Nat, k ≤ 8 ∧ s7 = .int .i64 (k : Int) ∧ s4 = .int .i64 (s : Int) ∧ s2 = .int .i64 (f : Int) ∧ s3 = .int .i64 (t : Int) ∧ s ≤ k ∧ f ≤ t ∧ t ≤ k ∧ Hid (gs z k = (s, f, t))) (fun _ _ _ s7 => 8 - (intOf s7).toNat)
  case atStart => exact ⟨0, 0, 0, 0, by omega, rfl, rfl, rfl, rfl, by omega, by omega, by omega, rfl⟩
  case round =>
    obtain ⟨k, s, f, t, hk, rfl, rfl, rfl, rfl, hs, hf, ht, HG⟩ := hrel
    by_cases hlt : k < 8
    · obtain ⟨v, hv⟩ : ∃ v, v = g.getD k 0 := ⟨_, rfl⟩
      have hc : w0.cell? ⟨w.heap.size, k, none⟩ = some (.int .u16 (v : Int)) := by rw [HL.out.cell k, HCS.out, gc_get (by rw [H8.out]; exact hlt), hv]
      have hzk : z.getD k false = decide (v = 0) := by
        rw [HZ.out, hv, List.getD_eq_getElem?_getD, List.getD_eq_getElem?_getD]
        unfold isz
        rw [List.getElem?_map, List.getElem?_eq_getElem (show k < g.length by rw [H8.out]; exact hlt)]
        rfl
      have hstep : gs z (k + 1) = if (z.getD k false) = false then (k + 1, (gs z k).2) else if 2 ≤ k + 1 - (gs z k).1 ∧ k + 1 - (gs z k).1 > (gs z k).2.2 - (gs z k).2.1 then ((gs z k).1, (gs z k).1, k + 1) else gs z k := rfl
      rw [HG.out, hzk] at hstep
      dsimp only at hstep
      have hkb : k < cs.size := by rw [HCS.out, gc_size, H8.out]; exact hlt
      clear hv hzk
      by_cases h0 : v = 0
      · subst h0
        rw [if_neg (by simp)] at hstep
        by_cases h2 : 2 ≤ k + 1 - s ∧ k + 1 - s > t - f
        · rw [if_pos h2] at hstep
          have q1 : (2 : Int) ≤ (k : Int) + 1 - (s : Int) := by omega
          have q2 : (t : Int) - (f : Int) < (k : Int) + 1 - (s : Int) := by omega
          have HS := Lib.hid hstep
          clear hstep h2
          go_wp2
          go_round
          case rel => exact ⟨k + 1, s, s, k + 1, by omega, by go_num, rfl, rfl, by go_num, by omega, by omega, by omega, HS⟩
          case measure => simp [intOf]; omega
        · rw [if_neg h2] at hstep
          have HS := Lib.hid hstep
          by_cases h3 : 2 ≤ k + 1 - s
          · have q1 : (2 : Int) ≤ (k : Int) + 1 - (s : Int) := by omega
            have q2 : ¬ (t : Int) - (f : Int) < (k : Int) + 1 - (s : Int) := by omega
            clear hstep h2 h3
            go_wp2
            go_round
            case rel => exact ⟨k + 1, s, f, t, by omega, by go_num, rfl, rfl, rfl, by omega, by omega, by omega, HS⟩
            case measure => simp [intOf]; omega
          · have q1 : ¬ (2 : Int) ≤ (k : Int) + 1 - (s : Int) := by omega
            clear hstep h2 h3
            go_wp2
            go_round
            case rel => exact ⟨k + 1, s, f, t, by omega, by go_num, rfl, rfl, rfl, by omega, by omega, by omega, HS⟩
            case measure => simp [intOf]; omega
      · rw [if_pos (by simp [h0])] at hstep
        have HS := Lib.hid hstep
        have q1 : ((v : Int) == 0) = false := beq_eq_false_iff_ne.2 (by omega)
        clear hstep
        go_wp2
        go_round
        case rel => exact ⟨k + 1, k + 1, f, t, by omega, by go_num, by go_num, rfl, rfl, by omega, by omega, by omega, HS⟩
        case measure => simp [intOf]; omega
    · obtain rfl : k = 8 := by omega
      go_wp2
      go_ret2
      exact ⟨by rw [HG.out]; rfl, HB.out⟩

end Go.Proofs.YtpllhnknejceiaaGreatDoor.hw
