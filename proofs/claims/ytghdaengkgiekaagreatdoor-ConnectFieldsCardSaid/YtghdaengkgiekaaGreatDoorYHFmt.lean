/-
  Given for the seat's laws: the library's hexadecimal text of a number: the contract of FormatUint at base 16. No condition but that a table of the library lies as it is laid.
-/
import Derived.Test.YtghdaengkgiekaaGreatDoorYHGrp
import Derived.Laws.AppendOwn
import Derived.Laws.OwnMore
namespace Go.Proofs.YtghdaengkgiekaaGreatDoor.hw
open Go.RowKit mem hostp
set_option linter.unusedVariables false

/-- the bytes at the end of the library's row of 65 -/
structure Suf (w : World) (b : Nat) (l : Str) : Prop where
  ex : ∃ cs : Array Value, cs.size = 65 ∧ Lies w b 157 cs ∧ ∀ j c, l[j]? = some c → cs[65 - l.length + j]? = some (.int .u8 ((c.toNat : Nat) : Int))
  le : l.length ≤ 65
theorem Suf.step {w : World} {b : Nat} {l : Str} (h : Suf w b l) (hl : l.length < 65) (c : UInt8) : Suf (w.setCell ⟨b, 65 - l.length - 1, none⟩ (.int .u8 ((c.toNat : Nat) : Int))) b (c :: l) := by
  obtain ⟨cs, hs, hl1, hc⟩ := h.ex
  refine ⟨⟨_, ?_, hl1.set _ _, fun j d hj => ?_⟩, by simp; omega⟩
  · simp [hs]
  · have e : 65 - (c :: l).length = 65 - l.length - 1 := by simp; omega
    rw [e, Array.getElem?_setIfInBounds, hs]
    cases j with
    | zero =>
      simp at hj
      subst hj
      rw [if_pos (by omega), if_pos (by omega)]
    | succ j =>
      rw [if_neg (by omega), show 65 - l.length - 1 + (j + 1) = 65 - l.length + j by omega]
      exact hc j d (by simpa using hj)
theorem Suf.lt {w : World} {b : Nat} {l : Str} (h : Suf w b l) : b < w.heap.size := by obtain ⟨cs, hs, hl1, hc⟩ := h.ex; exact hl1.lt
theorem Suf.cell {w : World} {b : Nat} {l : Str} (h : Suf w b l) (k : Nat) (hk : k < 65) : ∃ v, w.cell? ⟨b, k, none⟩ = some v := by
  obtain ⟨cs, hs, hl1, hc⟩ := h.ex
  rw [hl1.cell k]
  exact ⟨_, Array.getElem?_eq_getElem (by omega)⟩
theorem Suf.frozen {w : World} {b : Nat} {l : Str} (h : Suf w b l) (k : Nat) : w.frozen? ⟨b, k, none⟩ = false := by
  obtain ⟨cs, hs, hl1, hc⟩ := h.ex
  exact hl1.frozen k
theorem Suf.text {w : World} {b cap : Nat} {l : Str} (h : Suf w b l) : (convert 29 9 (.slice (some ⟨b, 65 - l.length, none⟩) l.length cap)).run Tryz.prog w = .ok (.string (S l)) w := by
  obtain ⟨cs, hs, hl1, hc⟩ := h.ex
  exact run_convert_bytes_back (P := Tryz.prog) w 29 9 5 ⟨b, 65 - l.length, none⟩ cap l Tryz.underlying29 Tryz.underlying5 Tryz.underlying9 (fun j hj => by
    have e : (Addr.add ⟨b, 65 - l.length, none⟩ j) = ⟨b, 65 - l.length + j, none⟩ := by by_cases h0 : j = 0 <;> simp [Addr.add, h0]
    rw [e, hl1.cell, hc j l[j] (List.getElem?_eq_getElem hj)])

theorem hexdigit (W : World) (d : Nat) (hd : d < 16) : (Instr.index 9 (.string ⟨#[48, 49, 50, 51, 52, 53, 54, 55, 56, 57, 97, 98, 99, 100, 101, 102, 103, 104, 105, 106, 107, 108, 109, 110, 111, 112, 113, 114, 115, 116, 117, 118, 119, 120, 121, 122]⟩) (.int .u64 (d : Int))).run Tryz.prog W = .ok (.int .u8 (((dg d).toNat : Nat) : Int)) W := by
  rw [run_index_string (P := Tryz.prog) W 9 _ .u64 (d : Int) Tryz.underlying9, dif_pos ⟨by omega, by show (d : Int) < 36; omega⟩]
  congr 3
  have h : d = 0 ∨ d = 1 ∨ d = 2 ∨ d = 3 ∨ d = 4 ∨ d = 5 ∨ d = 6 ∨ d = 7 ∨ d = 8 ∨ d = 9 ∨ d = 10 ∨ d = 11 ∨ d = 12 ∨ d = 13 ∨ d = 14 ∨ d = 15 := by omega
  rcases h with rfl | rfl | rfl | rfl | rfl | rfl | rfl | rfl | rfl | rfl | rfl | rfl | rfl | rfl | rfl | rfl <;> rfl

set_option maxHeartbeats 1000000 in
theorem isPow_any (w : World) : Calls Tryz.prog 124 #[.int .i64 16] w fun e w' => e = .returned (.bool true) ∧ w = w' := by
  have hb : bits .and .i64 (16 : Int) (15 : Int) = 0 := by decide
  go_enter Tryz.func124, Tryz.ntmps124
  go_wp2
  go_ret
  exact ⟨rfl, rfl⟩

set_option maxHeartbeats 1000000 in
theorem tz64_any (w : World) (hd : D64 w) : Calls Tryz.prog 141 #[.int .u64 16] w fun e w' => e = .returned (.int .i64 4) ∧ w = w' := by
  have hb : IntKind.u64.wrap (bits .and .u64 16 (IntKind.u64.wrap (-16)) * 285870213051353865) / 288230376151711744 = 15 := by decide +kernel
  have hd' : w.cell? ⟨4, 15, none⟩ = some (.int .u8 4) := hd
  go_enter Tryz.func141, Tryz.ntmps141
  go_wp2
  go_ret
  exact ⟨rfl, rfl⟩

set_option maxHeartbeats 1000000 in
theorem tz_any (w : World) (hd : D64 w) : Calls Tryz.prog 125 #[.int .u64 16] w fun e w' => e = .returned (.int .i64 4) ∧ w = w' := by
  go_enter Tryz.func125, Tryz.ntmps125
  go_wp2_with fail
  refine (tz64_any w hd).mono ?_
  rintro e w' ⟨rfl, rfl⟩
  go_wp2
  go_ret
  exact ⟨rfl, rfl⟩

theorem shr4 (n : Nat) : (n : Int) / 16 = ((n / 16 : Nat) : Int) := by omega
theorem and15 (n : Nat) (h : n < 65536) : bits .and .u64 (n : Int) (15 : Int) = ((n % 16 : Nat) : Int) := by
  have := bits_mask .u64 16 (by decide) (fun m h0 h1 => by rw [IntKind.wrap_u64]; omega) 4 (by omega) (n : Int) (by omega) (by omega)
  rw [show (15 : Int) = 2 ^ 4 - 1 by decide, this]
  omega

theorem slice65 (W : World) (b p : Nat) (hp : p ≤ 64) : (Instr.sliceAt 157 (.pointer (some ⟨b, 0, none⟩)) (some (.int .i64 (p : Int))) none none).run Tryz.prog W = .ok (.slice (some ⟨b, p, none⟩) (65 - p) (65 - p)) W := by
  have ha : Tryz.prog.arrayLen 157 = 65 := by kernel_rfl
  rw [run_sliceAt_array_l (P := Tryz.prog) (t := 157) (kl := .i64) (l := (p : Int)) (h0 := by omega) (h1 := by rw [ha]; omega)]
  · have he : Tryz.prog.elem 157 = 5 := by kernel_rfl
    rw [he, ha, Tryz.sizeOf5]
    show Result.ok (slicedAt ⟨b, 0, none⟩ ((p : Int)).toNat 65 65 1) W = _
    rw [Int.toNat_natCast]
    unfold slicedAt
    rw [if_neg (by omega), Nat.mul_one]
    have e : (Addr.add ⟨b, 0, none⟩ p) = ⟨b, p, none⟩ := by by_cases h0 : p = 0 <;> simp [Addr.add, h0]
    rw [e]
  · kernel_rfl

set_option maxRecDepth 100000 in
set_option maxHeartbeats 4000000 in
theorem formatBits_any (n : Nat) (hn : n < 65536) (w : World) (hd : D64 w) :
    Calls Tryz.prog 106 #[.slice none 0 0, .int .u64 (n : Int), .int .i64 16, .bool false, .bool false] w (Gives (.tuple #[.slice none 0 0, .string (S (nm 16 n))]) w) := by
  obtain ⟨w0, hw0⟩ : ∃ w0, w0 = w.alloc (.cells Tryz.zeroCells157 157) := ⟨_, rfl⟩
  have hs0 : Suf w0 w.heap.size [] := ⟨⟨_, (show (Tryz.zeroCells157).size = 65 by kernel_rfl), by rw [hw0]; exact Lies.new _ _ _, fun j c hj => by simp at hj⟩, by simp⟩
  have hb0 : Below w.heap.size w w0 := by rw [hw0]; exact (Below.refl _ w).alloc (Nat.le_refl _) _
  have hd0 : D64 w0 := cell_kept hd hb0
  have HS0 := Lib.hid hs0
  have HB0 := Lib.hid hb0
  have HD0 := Lib.hid hd0
  have hn4 := nm_len (b := 16) (by omega) 3 n (by omega)
  have HN4 := Lib.hid hn4
  clear hs0 hb0 hd hd0 hn4
  go_enter Tryz.func106, Tryz.ntmps106
  go_wp2_with fail
  rw [← hw0]
  clear hw0
  refine (isPow_any _).mono ?_
  rintro e w' ⟨rfl, rfl⟩
  go_wp2_with fail
  refine (tz_any _ HD0.out).mono ?_
  rintro e w' ⟨rfl, rfl⟩
  clear HD0
  go_wp2
  go_loopw [1, 13] (fun s1 s13 wr => ∃ (u : Nat) (l : Str), u ≤ n ∧ l.length ≤ 3 ∧ s1 = .int .u64 (u : Int) ∧ s13 = .int .i64 ((65 - l.length : Nat) : Int) ∧ Hid (nm 16 u ++ l = nm 16 n) ∧ Hid (Suf wr w.heap.size l) ∧ Hid (Below w.heap.size w wr)) (fun s1 _ _ => (intOf s1).toNat)
  case atStart => exact ⟨n, [], Nat.le_refl _, by simp, rfl, rfl, by simp [Hid], HS0.out, HB0.out⟩
  case round =>
    clear HS0 HB0
    obtain ⟨u, l, hu, hl3, rfl, rfl, HR, HS, HB⟩ := hrel
    by_cases hlt : u < 16
    · have hix := fun W => hexdigit W u hlt
      have hst := HS.out.step (by omega) (dg u)
      have hfin : S (dg u :: l) = S (nm 16 n) := by
        rw [← HR.out, nm_small hlt]
        rfl
      have htx := hst.text (cap := 65 - (65 - l.length - 1))
      rw [hfin] at htx
      have e1 : 65 - (dg u :: l).length = 65 - l.length - 1 := by simp; omega
      have e2 : (dg u :: l).length = 65 - (65 - l.length - 1) := by simp; omega
      rw [e1, e2] at htx
      obtain ⟨x0, hx0⟩ := HS.out.cell (65 - l.length - 1) (by omega)
      have fz := HS.out.frozen (65 - l.length - 1)
      have HB2 := Lib.hid (HB.out.setCell (p := ⟨w.heap.size, 65 - l.length - 1, none⟩) (Nat.le_refl _) (.int .u8 (((dg u).toNat : Nat) : Int)))
      obtain ⟨d, hd⟩ : ∃ d : Int, d = (((dg u).toNat : Nat) : Int) := ⟨_, rfl⟩
      rw [← hd] at htx HB2
      simp only [← hd] at hix
      obtain ⟨p, hp⟩ : ∃ p : Nat, p = 65 - l.length - 1 := ⟨_, rfl⟩
      have hp1 : ((65 - l.length : Nat) : Int) = (p : Int) + 1 := by omega
      have hp2 : p ≤ 64 := by omega
      rw [← hp] at htx HB2 hx0 fz
      rw [hp1]
      have hun : ¬ (16 : Int) ≤ (u : Int) := by omega
      have hsl : ∀ W, (Instr.sliceAt 157 (.pointer (some ⟨w.heap.size, 0, none⟩)) (some (.int .i64 (p : Int))) none none).run Tryz.prog W = .ok (.slice (some ⟨w.heap.size, p, none⟩) (65 - p) (65 - p)) W := fun W => slice65 W _ p hp2
      clear hst hfin e1 e2 hd HS HR hp hp1 hl3
      go_wp2
      go_ret2
      exact ⟨rfl, HB2.out⟩
    · have hm := Nat.mod_lt u (show 0 < 16 by omega)
      have hix := fun W => hexdigit W (u % 16) hm
      have hst := HS.out.step (by omega) (dg (u % 16))
      obtain ⟨x0, hx0⟩ := HS.out.cell (65 - l.length - 1) (by omega)
      have fz := HS.out.frozen (65 - l.length - 1)
      have hrr : nm 16 (u / 16) ++ (dg (u % 16) :: l) = nm 16 n := by
        rw [← HR.out, nm_step (b := 16) (n := u) (by omega) hlt, List.append_assoc]
        rfl
      have hl2 : (dg (u % 16) :: l).length ≤ 3 := by
        have h1 := congrArg List.length hrr
        have h2 := HN4.out
        have h3 : 0 < (nm 16 (u / 16)).length := List.length_pos_iff.2 (nm_ne (by omega) _)
        rw [List.length_append] at h1
        omega
      have HB2 := Lib.hid (HB.out.setCell (p := ⟨w.heap.size, 65 - l.length - 1, none⟩) (Nat.le_refl _) (.int .u8 (((dg (u % 16)).toNat : Nat) : Int)))
      have HS2 := Lib.hid hst
      have HR2 := Lib.hid hrr
      have HL2 := Lib.hid hl2
      have hand := and15 u (by omega)
      have hsh := shr4 u
      obtain ⟨q, hq⟩ : ∃ q : Nat, q = u / 16 := ⟨_, rfl⟩
      have HQ := Lib.hid (show q < u by omega)
      obtain ⟨r, hr⟩ : ∃ r : Nat, r = u % 16 := ⟨_, rfl⟩
      rw [← hq] at HR2 hsh
      rw [← hr] at hand HS2 HB2 HR2 HL2
      simp only [← hr] at hix
      obtain ⟨d, hd⟩ : ∃ d : Int, d = (((dg r).toNat : Nat) : Int) := ⟨_, rfl⟩
      rw [← hd] at HS2 HB2
      simp only [← hd] at hix
      obtain ⟨p, hp⟩ : ∃ p : Nat, p = 65 - l.length - 1 := ⟨_, rfl⟩
      have hp1 : ((65 - l.length : Nat) : Int) = (p : Int) + 1 := by omega
      have hp2 : p ≤ 64 := by omega
      have HP := Lib.hid (show p = 65 - (dg r :: l).length by simp; omega)
      rw [← hp] at HS2 HB2 hx0 fz
      rw [hp1]
      have hun : (16 : Int) ≤ (u : Int) := by omega
      clear hst hd HS HR hp hp1 hl3 hrr hl2 hq hr hm HB hlt
      go_wp2
      go_roundw
      case rel => exact ⟨q, dg r :: l, by have := HQ.out; omega, HL2.out, by go_num, by rw [← HP.out], HR2, HS2, HB2⟩
      case measure =>
        have := HQ.out
        simp [intOf]
        omega

end Go.Proofs.YtghdaengkgiekaaGreatDoor.hw

/-
  Given for the seat's laws: the longest row of noughts, as the program finds it: the contract of gap. No condition but those of the theorems.
-/
namespace Go.Proofs.YtghdaengkgiekaaGreatDoor.hw
open Go.RowKit mem hostp
set_option linter.unusedVariables false

/-! ### over which groups are 0 alone -/
def zrB : List Bool → Nat
  | [] => 0
  | v :: g => if v then zrB g + 1 else 0
def bstB (g : List Bool) : Nat → Nat × Nat
  | 0 => (0, 0)
  | k + 1 => if zrB (g.drop k) > (bstB g k).2 ∧ 2 ≤ zrB (g.drop k) then (k, zrB (g.drop k)) else bstB g k
def isz (g : List Nat) : List Bool := g.map fun v => decide (v = 0)
theorem zr_isz : ∀ g : List Nat, zr g = zrB (isz g)
  | [] => rfl
  | v :: g => by
    show (if v = 0 then zr g + 1 else 0) = if decide (v = 0) then zrB (isz g) + 1 else 0
    rw [zr_isz g]
    by_cases h : v = 0 <;> simp [h]
theorem bst_isz (g : List Nat) : ∀ k, bst g k = bstB (isz g) k
  | 0 => rfl
  | k + 1 => by
    show (if zr (g.drop k) > (bst g k).2 ∧ 2 ≤ zr (g.drop k) then (k, zr (g.drop k)) else bst g k) = _
    rw [bst_isz g k, zr_isz, show isz (g.drop k) = (isz g).drop k by simp [isz, List.map_drop]]
    rfl
/-- the program's way: where the row began, from where, and up to where, the longest one goes -/
def gs (z : List Bool) : Nat → Nat × Nat × Nat
  | 0 => (0, 0, 0)
  | k + 1 => if (z.getD k false) = false then (k + 1, (gs z k).2) else if 2 ≤ k + 1 - (gs z k).1 ∧ k + 1 - (gs z k).1 > (gs z k).2.2 - (gs z k).2.1 then ((gs z k).1, (gs z k).1, k + 1) else gs z k
theorem gs_ok (z : List Bool) : ∀ k, (gs z k).1 ≤ k ∧ (gs z k).2.1 ≤ (gs z k).2.2 ∧ (gs z k).2.2 ≤ k
  | 0 => by simp [gs]
  | k + 1 => by
    obtain ⟨h1, h2, h3⟩ := gs_ok z k
    unfold gs
    split
    · exact ⟨Nat.le_refl _, h2, by dsimp only; omega⟩
    · split
      · exact ⟨by dsimp only; omega, by dsimp only; omega, Nat.le_refl _⟩
      · exact ⟨by omega, h2, by omega⟩
theorem gs_bst8 : ∀ a b c d e f i j : Bool, ((gs [a, b, c, d, e, f, i, j] 8).2.1 = (bstB [a, b, c, d, e, f, i, j] 8).1 ∧ (gs [a, b, c, d, e, f, i, j] 8).2.2 = (bstB [a, b, c, d, e, f, i, j] 8).1 + (bstB [a, b, c, d, e, f, i, j] 8).2) := by
  decide +kernel
theorem gs_bst {g : List Nat} (h8 : g.length = 8) : (gs (isz g) 8).2.1 = (bst g 8).1 ∧ (gs (isz g) 8).2.2 = (bst g 8).1 + (bst g 8).2 := by
  obtain ⟨a, b, c, d, e, f, i, j, hz⟩ := eight (g := isz g) (by simpa [isz] using h8)
  rw [bst_isz, hz]
  exact gs_bst8 a b c d e f i j

set_option maxRecDepth 100000 in
set_option maxHeartbeats 4000000 in
theorem gap_any (g : List Nat) (h8 : g.length = 8) (w : World) : Calls Tryz.prog 98 #[gv g] w (Gives (.tuple #[.int .i64 ((bst g 8).1 : Int), .int .i64 (((bst g 8).1 + (bst g 8).2 : Nat) : Int)]) w) := by
  obtain ⟨hb1, hb2⟩ := gs_bst h8
  rw [← hb2, ← hb1]
  have hl := Lies.new w 122 (gc g)
  have hb := (Below.refl _ w).alloc (Nat.le_refl _) (.cells (gc g) 122)
  obtain ⟨z, hz⟩ : ∃ z, z = isz g := ⟨_, rfl⟩
  rw [← hz]
  have HL := Lib.hid hl
  have HB := Lib.hid hb
  have H8 := Lib.hid h8
  have HZ := Lib.hid hz
  unfold gv
  obtain ⟨cs, hcs⟩ : ∃ cs, cs = gc g := ⟨_, rfl⟩
  have HCS := Lib.hid hcs
  rw [← hcs] at HL HB ⊢
  clear hl hb hb1 hb2 h8 hz hcs
  go_enter Tryz.func98, Tryz.ntmps98
  go_wp2
  obtain ⟨w0, hw0⟩ : ∃ w0, w0 = w.alloc (.cells cs 122) := ⟨_, rfl⟩
  rw [← hw0] at HL HB ⊢
  clear hw0
  go_loop [2, 3, 4, 7] (fun s2 s3 s4 s7 => ∃ k s f t : Nat, k ≤ 8 ∧ s7 = .int .i64 (k : Int) ∧ s4 = .int .i64 (s : Int) ∧ s2 = .int .i64 (f : Int) ∧ s3 = .int .i64 (t : Int) ∧ s ≤ k ∧ f ≤ t ∧ t ≤ k ∧ Hid (gs z k = (s, f, t))) (fun _ _ _ s7 => 8 - (intOf s7).toNat)
  case atStart => exact ⟨0, 0, 0, 0, by omega, rfl, rfl, rfl, rfl, by omega, by omega, by omega, rfl⟩
  case round =>
    obtain ⟨k, s, f, t, hk, rfl, rfl, rfl, rfl, hs, hf, ht, HG⟩ := hrel
    by_cases hlt : k < 8
    · obtain ⟨v, hv⟩ : ∃ v, v = g.getD k 0 := ⟨_, rfl⟩
      have hc : w0.cell? ⟨w.heap.size, k, none⟩ = some (.int .u16 (v : Int)) := by rw [HL.out.cell k, HCS.out, gc_get (by rw [H8.out]; exact hlt), hv]
      have hzk : z.getD k false = decide (v = 0) := by
        rw [HZ.out, hv, List.getD_eq_getElem?_getD, List.getD_eq_getElem?_getD]
        unfold isz
        rw [List.getElem?_map, List.getElem?_eq_getElem (show k < g.length by rw [H8.out]; exact hlt)]
        rfl
      have hstep : gs z (k + 1) = if (z.getD k false) = false then (k + 1, (gs z k).2) else if 2 ≤ k + 1 - (gs z k).1 ∧ k + 1 - (gs z k).1 > (gs z k).2.2 - (gs z k).2.1 then ((gs z k).1, (gs z k).1, k + 1) else gs z k := rfl
      rw [HG.out, hzk] at hstep
      dsimp only at hstep
      have hkb : k < cs.size := by rw [HCS.out, gc_size, H8.out]; exact hlt
      clear hv hzk
      by_cases h0 : v = 0
      · subst h0
        rw [if_neg (by simp)] at hstep
        by_cases h2 : 2 ≤ k + 1 - s ∧ k + 1 - s > t - f
        · rw [if_pos h2] at hstep
          have q1 : (2 : Int) ≤ (k : Int) + 1 - (s : Int) := by omega
          have q2 : (t : Int) - (f : Int) < (k : Int) + 1 - (s : Int) := by omega
          have HS := Lib.hid hstep
          clear hstep h2
          go_wp2
          go_round
          case rel => exact ⟨k + 1, s, s, k + 1, by omega, by go_num, rfl, rfl, by go_num, by omega, by omega, by omega, HS⟩
          case measure => simp [intOf]; omega
        · rw [if_neg h2] at hstep
          have HS := Lib.hid hstep
          by_cases h3 : 2 ≤ k + 1 - s
          · have q1 : (2 : Int) ≤ (k : Int) + 1 - (s : Int) := by omega
            have q2 : ¬ (t : Int) - (f : Int) < (k : Int) + 1 - (s : Int) := by omega
            clear hstep h2 h3
            go_wp2
            go_round
            case rel => exact ⟨k + 1, s, f, t, by omega, by go_num, rfl, rfl, rfl, by omega, by omega, by omega, HS⟩
            case measure => simp [intOf]; omega
          · have q1 : ¬ (2 : Int) ≤ (k : Int) + 1 - (s : Int) := by omega
            clear hstep h2 h3
            go_wp2
            go_round
            case rel => exact ⟨k + 1, s, f, t, by omega, by go_num, rfl, rfl, rfl, by omega, by omega, by omega, HS⟩
            case measure => simp [intOf]; omega
      · rw [if_pos (by simp [h0])] at hstep
        have HS := Lib.hid hstep
        have q1 : ((v : Int) == 0) = false := beq_eq_false_iff_ne.2 (by omega)
        clear hstep
        go_wp2
        go_round
        case rel => exact ⟨k + 1, k + 1, f, t, by omega, by go_num, by go_num, rfl, rfl, by omega, by omega, by omega, HS⟩
        case measure => simp [intOf]; omega
    · obtain rfl : k = 8 := by omega
      go_wp2
      go_ret2
      exact ⟨by rw [HG.out]; rfl, HB.out⟩

end Go.Proofs.YtghdaengkgiekaaGreatDoor.hw

/-
  Given for the seat's laws: the contracts of FormatUint and of words. No condition but that the library's tables lie as they are laid.
-/
namespace Go.Proofs.YtghdaengkgiekaaGreatDoor.hw
open Go.RowKit mem hostp
set_option linter.unusedVariables false

set_option maxHeartbeats 1000000 in
theorem formatUint_any (n : Nat) (hn : n < 65536) (w : World) (hd : D64 w) : Calls Tryz.prog 120 #[.int .u64 (n : Int), .int .i64 16] w (Gives (.string (S (nm 16 n))) w) := by
  have H := Lib.hid (formatBits_any n hn w hd)
  clear hd
  go_enter Tryz.func120, Tryz.ntmps120
  go_wp2_with (first | (go_at_call 106; refine H.out.mono ?_; rintro e w' ⟨rfl, hb⟩; have HB := Lib.hid hb; clear hb) | go_in)
  go_ret
  exact ⟨rfl, HB.out⟩

/-- the texts as values -/
def sv (l : List Str) : List Value := l.map fun x => Value.string (S x)
theorem sv_snoc (l : List Str) (x : Str) : sv l ++ [.string (S x)] = sv (l ++ [x]) := by simp [sv]
theorem sv_len (l : List Str) : (sv l).length = l.length := by simp [sv]
/-- the cells of a row of one's own -/
theorem own_cells {W : World} {B : Nat} {e : TypeId} {v : Value} {n : Nat} {xs : List Value} (h : W.ownsRow B e 1 v n xs) (hn : 0 < n) : ∃ g cap, v = .slice (some ⟨g, 0, none⟩) n cap ∧ B ≤ g ∧ g < W.heap.size ∧ n ≤ cap ∧ ∀ j x, xs[j]? = some x → W.cell? ⟨g, j, none⟩ = some x := by
  rcases h.2 with ⟨rfl, h0⟩ | ⟨g, cap, cur, rfl, hb, hh, hnc, hm, hs, ht⟩
  · omega
  · refine ⟨g, cap, rfl, hb, (Array.getElem?_eq_some_iff.1 hh).1, hnc, fun j x hx => ?_⟩
    rw [← ht, Nat.mul_one, List.getElem?_take] at hx
    split at hx
    · simp [World.cell?, hh]
      simpa using hx
    · cases hx
/-- texts in a row of one's own, joined -/
theorem join_own {W : World} {B : Nat} {v : Value} {l : List Str} (h : W.ownsRow B 9 1 v l.length (sv l)) (hN : l.length ≤ 1000000) (a : UInt8) (hlen : (join a l).length ≤ 1000000000) :
    Calls Tryz.prog 97 #[v, .string ⟨#[a]⟩] W (Gives (.string (S (join a l))) W) := by
  by_cases h0 : 0 < l.length
  · obtain ⟨g, cap, rfl, hb, hlt, hnc, hc⟩ := own_cells h h0
    exact join_any g cap l a W (fun j x hx => hc j _ (by unfold sv; rw [List.getElem?_map, hx]; rfl)) hlt hN hnc hlen
  · obtain rfl : l = [] := List.length_eq_zero_iff.1 (by omega)
    rcases h.2 with ⟨rfl, _⟩ | ⟨g, cap, cur, rfl, hb, hh, hnc, hm, hs, ht⟩
    · exact (Tryz.strings_Join_none _ _ _ W).mono fun e w' ⟨he, hw⟩ => ⟨he, hw ▸ Below.refl _ _⟩
    · exact (Tryz.strings_Join_none _ _ _ W).mono fun e w' ⟨he, hw⟩ => ⟨he, hw ▸ Below.refl _ _⟩

theorem own_below {W W' : World} {B : Nat} {e : TypeId} {v : Value} {n : Nat} {xs : List Value} (h : W.ownsRow B e 1 v n xs) (hb : Below W.heap.size W W') : W'.ownsRow B e 1 v n xs := by
  refine ⟨h.1, ?_⟩
  rcases h.2 with h2 | ⟨g, cap, cur, he, hB, hh, hr⟩
  · exact .inl h2
  · exact .inr ⟨g, cap, cur, he, hB, (hb.block g (Array.getElem?_eq_some_iff.1 hh).1).trans hh, hr⟩

/-- what holds between two rounds -/
structure Wds (w wr : World) (v : Value) (g : List Nat) (l : List Str) (k : Nat) : Prop where
  own : wr.ownsRow w.heap.size 9 1 v k (sv (l.take k))
  below : Below w.heap.size w wr
  grp : Lies wr w.heap.size 122 (gc g)
  far : v.ownBlock ≠ some w.heap.size
theorem info_parts' {P : Program} {t : TypeId} {z : Value} {s b : Nat} (h : (P.info? t).map (fun i => (i.zero, i.size, i.bytes)) = some (some z, s, b)) : ∃ i, P.info? t = some i ∧ i.zero = some z ∧ i.size = s ∧ i.bytes = b := by
  obtain ⟨i, hi, he⟩ := Option.map_eq_some_iff.1 h
  simp only [Prod.mk.injEq] at he
  exact ⟨i, hi, he.1, he.2.1, he.2.2⟩

theorem own_far {W : World} {B : Nat} {e : TypeId} {v : Value} {n : Nat} {xs : List Value} (h : W.ownsRow B e 1 v n xs) : ∀ j, v.ownBlock = some j → B ≤ j := by
  intro j hj
  rcases h.2 with ⟨rfl, h0⟩ | ⟨g, cap, cur, rfl, hb, _⟩
  · simp [Value.ownBlock] at hj
  · simp [Value.ownBlock] at hj
    omega

theorem wds_join {w wr : World} {v : Value} {g : List Nat} {l : List Str} {k : Nat} (h : Wds w wr v g l k) : Wds w wr v g l k := h

set_option maxRecDepth 100000 in
set_option maxHeartbeats 4000000 in
theorem words_any (g : List Nat) (h8 : g.length = 8) (hg : ∀ v ∈ g, v < 65536) (f t : Nat) (hf : f ≤ t) (ht : t ≤ 8) (w : World) (he : D64 w) :
    Calls Tryz.prog 99 #[gv g, .int .i64 (f : Int), .int .i64 (t : Int)] w (Gives (.string (S (join 58 (((g.drop f).take (t - f)).map (nm 16))))) w) := by
  obtain ⟨i0, hi, hz0, hz1, hz2⟩ := info_parts' (show (Tryz.prog.info? 9).map (fun i => (i.zero, i.size, i.bytes)) = some (some (.string ⟨#[]⟩), 1, 16) by kernel_rfl)
  obtain ⟨l, hl⟩ : ∃ l, l = ((g.drop f).take (t - f)).map (nm 16) := ⟨_, rfl⟩
  have hll : l.length = t - f := by rw [hl]; simp; omega
  have hget : ∀ k, k < t - f → l[k]? = some (nm 16 (g.getD (f + k) 0)) := fun k hk => by
    rw [hl, List.getElem?_map, List.getElem?_take, if_pos hk, List.getElem?_drop, List.getD_eq_getElem?_getD, List.getElem?_eq_getElem (by omega)]
    rfl
  have hjl : (join 58 l).length ≤ 1000000000 := by
    have := join_len 58 4 (l := l) (fun x hx => by
      rw [hl] at hx
      obtain ⟨v, hv, rfl⟩ := List.mem_map.1 hx
      exact nm_len (by omega) 3 v (by have := hg v (List.mem_of_mem_drop (List.mem_of_mem_take hv)); omega))
    omega
  rw [← hl]
  obtain ⟨w0, hw0⟩ : ∃ w0, w0 = w.alloc (.cells (gc g) 122) := ⟨_, rfl⟩
  have h0 : w0.ownsRow (w.heap.size + 1) 9 1 (.slice none 0 0) 0 (sv (l.take 0)) := ⟨rfl, .inl ⟨rfl, rfl⟩⟩
  have hb0 : Below w.heap.size w w0 := by rw [hw0]; exact (Below.refl _ w).alloc (Nat.le_refl _) _
  have hl0 : Lies w0 w.heap.size 122 (gc g) := by rw [hw0]; exact Lies.new _ _ _
  have H0 := Lib.hid h0
  have HB0 := Lib.hid hb0
  have HL0 := Lib.hid hl0
  have HE := Lib.hid he
  have HLL := Lib.hid hll
  have HJL := Lib.hid hjl
  have HGET := Lib.hid hget
  have HGG := Lib.hid hg
  have H8 := Lib.hid h8
  unfold gv
  obtain ⟨cs, hcs⟩ : ∃ cs, cs = gc g := ⟨_, rfl⟩
  have HCS := Lib.hid hcs
  rw [← hcs] at HL0 hw0 ⊢
  clear h0 hb0 hl0 he hll hget hjl hl hg h8 hcs
  go_enter Tryz.func99, Tryz.ntmps99
  go_wp2
  rw [← hw0]
  clear hw0
  go_loopw [7, 12] (fun v s12 wr => ∃ k : Nat, k ≤ t - f ∧ s12 = .int .i64 (k : Int) ∧ Hid (wr.ownsRow (w.heap.size + 1) 9 1 v k (sv (l.take k))) ∧ Hid (Below w.heap.size w wr) ∧ Hid (Lies wr w.heap.size 122 cs)) (fun _ s12 _ => t - f - (intOf s12).toNat)
  case atStart => exact ⟨0, by omega, rfl, H0.out, HB0.out, HL0.out⟩
  case round =>
    clear H0 HB0 HL0
    obtain ⟨k, hk, rfl, HO, HB, HL⟩ := hrel
    by_cases hlt : k < t - f
    · obtain ⟨v, hv⟩ : ∃ v, v = g.getD (f + k) 0 := ⟨_, rfl⟩
      have hlk := HGET.out k hlt
      rw [← hv] at hlk
      have hv6 : v < 65536 := by
        rw [hv, List.getD_eq_getElem?_getD, List.getElem?_eq_getElem (show f + k < g.length by rw [H8.out]; omega)]
        exact HGG.out _ (List.getElem_mem _)
      have hc : wr.cell? ⟨w.heap.size, f + k, none⟩ = some (.int .u16 (v : Int)) := by rw [HL.out.cell, HCS.out, gc_get (by rw [H8.out]; omega), hv]
      have hfm := formatUint_any v hv6 wr (cell_kept HE.out HB.out)
      have hw1 : IntKind.u64.wrap (v : Int) = (v : Int) := by rw [IntKind.wrap_u64]; omega
      have HFM := Lib.hid hfm
      have HLK := Lib.hid hlk
      obtain ⟨p, hp⟩ : ∃ p : Nat, p = f + k := ⟨_, rfl⟩
      have hfk : (f : Int) + (k : Int) = (p : Int) := by omega
      have hp8 : p < 8 := by omega
      rw [← hp] at hc
      have hwf : wrap64 (p : Int) = (p : Int) := by unfold wrap64; omega
      have hcs8 : cs.size = 8 := by rw [HCS.out, gc_size, H8.out]
      have hpc : p < cs.size := hcs8.symm ▸ hp8
      clear hfm hlk hv hp hcs8
      have hk1 : k + 1 ≤ maxLen := by unfold maxLen; omega
      have hk2 : (k + 1) * 16 ≤ 140737488355328 := by omega
      have hz16 : (Value.string ⟨#[]⟩).cells.size = 1 := rfl
      go_wp2_with fail
      refine HFM.out.mono ?_
      rintro e w2 ⟨rfl, hb2⟩
      have ho2 : w2.ownsRow (w.heap.size + 1) 9 1 u7 k (sv (l.take k)) := own_below HO.out hb2
      have HO2 := Lib.hid ho2
      have HB2 := Lib.hid (HB.out.trans (hb2.mono HB.out.size))
      have HL2 := Lib.hid (HL.out.below hb2 HL.out.lt)
      generalize hx : S (nm 16 v) = x
      have HX := Lib.hid hx
      clear hb2 ho2 hx
      go_wp2_with (at_builtin; refine wpList_append_own _ rfl _ _ 50 rfl (w.heap.size + 1) 9 i0 (.string ⟨#[]⟩) 1 16 Tryz.underlying50 hi hz0 hz1 hz2 hz16 (by decide) _ k (sv (l.take k)) rfl (HO2.out.alloc _) ⟨w2.heap.size, 0, none⟩ 1 1 [.string x] rfl rfl ?c1 ?c2 ?c3 ?c4 ?c5 ?_)
      case c1 =>
        intro j u hj
        match j, hj with
        | 0, hj => simp at hj; subst hj; exact (Lies.new w2 9 #[.string x]).cell 0
      case c2 => intro u hu; simp at hu; subst hu; rfl
      case c3 => exact hk1
      case c4 => exact hk2
      case c5 => have := HL2.out.lt; simp; omega
      intro v' w1 hown' hgrow _
      have HN := Lib.hid (show w1.ownsRow (w.heap.size + 1) 9 1 v' (k + 1) (sv (l.take (k + 1))) by
        rw [← HX.out, sv_snoc] at hown'
        have e : l.take (k + 1) = l.take k ++ [nm 16 v] := take_snoc' HLK.out
        rw [e]
        exact hown')
      have hb3 := (HB2.out.alloc HB2.out.size (.cells #[.string x] 9))
      have HB3 := Lib.hid (hb3.grown hgrow hb3.size (fun j hj => by have := own_far HO2.out j hj; omega))
      have HL3 := Lib.hid ((HL2.out.alloc (.cells #[.string x] 9)).grown hgrow (fun e => by have := own_far HO2.out _ e.symm; omega))
      clear hown' hgrow hb3
      go_wp2
      go_roundw
      case rel => exact ⟨k + 1, by omega, by go_num, HN, HB3, HL3⟩
      case measure => simp [intOf]; omega
    · obtain rfl : k = t - f := by omega
      have ho := HO.out
      rw [List.take_of_length_le (by rw [HLL.out]; exact Nat.le_refl _), ← HLL.out] at ho
      have hj := join_own ho (by rw [HLL.out]; omega) 58 HJL.out
      have HJ := Lib.hid hj
      clear hj ho
      go_wp2_with fail
      refine HJ.out.mono ?_
      rintro e w2 ⟨rfl, hb2⟩
      have HB2 := Lib.hid (HB.out.trans (hb2.mono HB.out.size))
      clear hb2
      go_wp2
      go_ret
      exact ⟨rfl, HB2.out⟩

end Go.Proofs.YtghdaengkgiekaaGreatDoor.hw
