/-
  Given for the seat's laws: the library's hexadecimal text of a number: the contract of FormatUint at base 16. No condition but that a table of the library lies as it is laid.
-/
import Derived.Test.YtpllhnknejceiaaGreatDoorHGrp
namespace Go.Proofs.YtpllhnknejceiaaGreatDoor.hw
open Go.RowKit mem hostp
set_option linter.unusedVariables false

/-- the bytes at the end of the library's row of 65 -/
structure Suf (w : World) (b : Nat) (l : Str) : Prop where
  ex : ∃ cs : Array Value, cs.size = 65 ∧ Lies w b 143 cs ∧ ∀ j c, l[j]? = some c → cs[65 - l.length + j]? = some (.int .u8 ((c.toNat : Nat) : Int))
  le : l.length ≤ 65
theorem Suf.step {w : World} {b : Nat} {l : Str} (h : Suf w b l) (hl : l.length < 65) (c : UInt8) : Suf (w.setCell ⟨b, 65 - l.length - 1, none⟩ (.int .u8 ((c.toNat : Nat) : Int))) b (c :: l) := by
  obtain ⟨cs, hs, hl1, hc⟩ := h.ex
  refine ⟨⟨_, ?_, hl1.set _ _, fun j d hj => ?_⟩, by simp; omega⟩
  · simp [hs]
  · have e : 65 - (c :: l).length = 65 - l.length - 1 := by simp; omega
    rw [e, Array.getElem?_setIfInBounds, hs]
    cases j with
    | zero =>
      simp at hj
      subst hj
      rw [if_pos (by omega), if_pos (by omega)]
    | succ j =>
      rw [if_neg (by omega), show 65 - l.length - 1 + (j + 1) = 65 - l.length + j by omega]
      exact hc j d (by simpa using hj)
theorem Suf.lt {w : World} {b : Nat} {l : Str} (h : Suf w b l) : b < w.heap.size := by obtain ⟨cs, hs, hl1, hc⟩ := h.ex; exact hl1.lt
theorem Suf.cell {w : World} {b : Nat} {l : Str} (h : Suf w b l) (k : Nat) (hk : k < 65) : ∃ v, w.cell? ⟨b, k, none⟩ = some v := by
  obtain ⟨cs, hs, hl1, hc⟩ := h.ex
  rw [hl1.cell k]
  exact ⟨_, Array.getElem?_eq_getElem (by omega)⟩
theorem Suf.frozen {w : World} {b : Nat} {l : Str} (h : Suf w b l) (k : Nat) : w.frozen? ⟨b, k, none⟩ = false := by
  obtain ⟨cs, hs, hl1, hc⟩ := h.ex
  exact hl1.frozen k
theorem Suf.text {w : World} {b cap : Nat} {l : Str} (h : Suf w b l) : (convert 69 9 (.slice (some ⟨b, 65 - l.length, none⟩) l.length cap)).run Tryz.prog w = .ok (.string (S l)) w := by
  obtain ⟨cs, hs, hl1, hc⟩ := h.ex
  exact run_convert_bytes_back (P := Tryz.prog) w 69 9 5 ⟨b, 65 - l.length, none⟩ cap l Tryz.underlying69 Tryz.underlying5 Tryz.underlying9 (fun j hj => by
    have e : (Addr.add ⟨b, 65 - l.length, none⟩ j) = ⟨b, 65 - l.length + j, none⟩ := by by_cases h0 : j = 0 <;> simp [Addr.add, h0]
    rw [e, hl1.cell, hc j l[j] (List.getElem?_eq_getElem hj)])

theorem hexdigit (W : World) (d : Nat) (hd : d < 16) : (Instr.index 9 (.string ⟨#[48, 49, 50, 51, 52, 53, 54, 55, 56, 57, 97, 98, 99, 100, 101, 102, 103, 104, 105, 106, 107, 108, 109, 110, 111, 112, 113, 114, 115, 116, 117, 118, 119, 120, 121, 122]⟩) (.int .u64 (d : Int))).run Tryz.prog W = .ok (.int .u8 (((dg d).toNat : Nat) : Int)) W := by
  rw [run_index_string (P := Tryz.prog) W 9 _ .u64 (d : Int) Tryz.underlying9, dif_pos ⟨by omega, by show (d : Int) < 36; omega⟩]
  congr 3
  have h : d = 0 ∨ d = 1 ∨ d = 2 ∨ d = 3 ∨ d = 4 ∨ d = 5 ∨ d = 6 ∨ d = 7 ∨ d = 8 ∨ d = 9 ∨ d = 10 ∨ d = 11 ∨ d = 12 ∨ d = 13 ∨ d = 14 ∨ d = 15 := by omega
  rcases h with rfl | rfl | rfl | rfl | rfl | rfl | rfl | rfl | rfl | rfl | rfl | rfl | rfl | rfl | rfl | rfl <;> rfl

set_option maxHeartbeats 1000000 in
theorem isPow_any (w : World) : Calls Tryz.prog 116 #[.int .i64 16] w fun e w' => e = .returned (.bool true) ∧ w = w' := by
  have hb : bits .and .i64 (16 : Int) (15 : Int) = 0 := by decide
  go_enter Tryz.func116, Tryz.ntmps116
  go_wp2
  go_ret
  exact ⟨rfl, rfl⟩

set_option maxHeartbeats 1000000 in
theorem tz64_any (w : World) (hd : D64 w) : Calls Tryz.prog 122 #[.int .u64 16] w fun e w' => e = .returned (.int .i64 4) ∧ w = w' := by
  have hb : IntKind.u64.wrap (bits .and .u64 16 (IntKind.u64.wrap (-16)) * 285870213051353865) / 288230376151711744 = 15 := by decide +kernel
  have hd' : w.cell? ⟨7, 15, none⟩ = some (.int .u8 4) := hd
  go_enter Tryz.func122, Tryz.ntmps122
  go_wp2
  go_ret
  exact ⟨rfl, rfl⟩

set_option maxHeartbeats 1000000 in
theorem tz_any (w : World) (hd : D64 w) : Calls Tryz.prog 117 #[.int .u64 16] w fun e w' => e = .returned (.int .i64 4) ∧ w = w' := by
  go_enter Tryz.func117, Tryz.ntmps117
  go_wp2_with fail
  refine (tz64_any w hd).mono ?_
  rintro e w' ⟨rfl, rfl⟩
  go_wp2
  go_ret
  exact ⟨rfl, rfl⟩

theorem shr4 (n : Nat) : (n : Int) / 16 = ((n / 16 : Nat) : Int) := by omega
theorem and15 (n : Nat) (h : n < 65536) : bits .and .u64 (n : Int) (15 : Int) = ((n % 16 : Nat) : Int) := by
  have := bits_mask .u64 16 (by decide) (fun m h0 h1 => by rw [IntKind.wrap_u64]; omega) 4 (by omega) (n : Int) (by omega) (by omega)
  rw [show (15 : Int) = 2 ^ 4 - 1 by decide, this]
  omega

theorem slice65 (W : World) (b p : Nat) (hp : p ≤ 64) : (Instr.sliceAt 143 (.pointer (some ⟨b, 0, none⟩)) (some (.int .i64 (p : Int))) none none).run Tryz.prog W = .ok (.slice (some ⟨b, p, none⟩) (65 - p) (65 - p)) W := by
  have ha : Tryz.prog.arrayLen 143 = 65 := by kernel_rfl
  rw [run_sliceAt_array_l (P := Tryz.prog) (t := 143) (kl := .i64) (l := (p : Int)) (h0 := by omega) (h1 := by rw [ha]; omega)]
  · have he : Tryz.prog.elem 143 = 5 := by kernel_rfl
    rw [he, ha, Tryz.sizeOf5]
    show Result.ok (slicedAt ⟨b, 0, none⟩ ((p : Int)).toNat 65 65 1) W = _
    rw [Int.toNat_natCast]
    unfold slicedAt
    rw [if_neg (by omega), Nat.mul_one]
    have e : (Addr.add ⟨b, 0, none⟩ p) = ⟨b, p, none⟩ := by by_cases h0 : p = 0 <;> simp [Addr.add, h0]
    rw [e]
  · kernel_rfl

set_option maxRecDepth 100000 in
set_option maxHeartbeats 4000000 in
theorem formatBits_any (n : Nat) (hn : n < 65536) (w : World) (hd : D64 w) :
    Calls Tryz.prog 96 #[.slice none 0 0, .int .u64 (n : Int), .int .i64 16, .bool false, .bool false] w (Gives (.tuple #[.slice none 0 0, .string (S (nm 16 n))]) w) := by
  obtain ⟨w0, hw0⟩ : ∃ w0, w0 = w.alloc (.cells Tryz.zeroCells143 143) := ⟨_, rfl⟩
  have hs0 : Suf w0 w.heap.size [] := ⟨⟨_, (show (Tryz.zeroCells143).size = 65 by kernel_rfl), by rw [hw0]; exact Lies.new _ _ _, fun j c hj => by simp at hj⟩, by simp⟩
  have hb0 : Below w.heap.size w w0 := by rw [hw0]; exact (Below.refl _ w).alloc (Nat.le_refl _) _
  have hd0 : D64 w0 := cell_kept hd hb0
  have HS0 := Lib.hid hs0
  have HB0 := Lib.hid hb0
  have HD0 := Lib.hid hd0
  have hn4 := nm_len (b := 16) (by omega) 3 n (by omega)
  have HN4 := Lib.hid hn4
  clear hs0 hb0 hd hd0 hn4
  go_enter Tryz.func96, Tryz.ntmps96
  go_wp2_with fail
  rw [← hw0]
  clear hw0
  refine (isPow_any _).mono ?_
  rintro e w' ⟨rfl, rfl⟩
  go_wp2_with fail
  refine (tz_any _ HD0.out).mono ?_
  rintro e w' ⟨rfl, rfl⟩
  clear HD0
  go_wp2
  go_loopw [1, 13] (fun s1 s13 wr => ∃ (u : Nat) (l : Str), u ≤ n ∧ l.length ≤ 3 ∧ s1 = .int .u64 (u : Int) ∧ s13 = .int .i64 ((65 - l.length : Nat) : Int) ∧ Hid (nm 16 u ++ l = nm 16 n) ∧ Hid (Suf wr w.heap.size l) ∧ Hid (Below w.heap.size w wr)) (fun s1 _ _ => (intOf s1).toNat)
  case atStart => exact ⟨n, [], Nat.le_refl _, by simp, rfl, rfl, by simp [Hid], HS0.out, HB0.out⟩
  case round =>
    clear HS0 HB0
    obtain ⟨u, l, hu, hl3, rfl, rfl, HR, HS, HB⟩ := hrel
    by_cases hlt : u < 16
    · have hix := fun W => hexdigit W u hlt
      have hst := HS.out.step (by omega) (dg u)
      have hfin : S (dg u :: l) = S (nm 16 n) := by
        rw [← HR.out, nm_small hlt]
        rfl
      have htx := hst.text (cap := 65 - (65 - l.length - 1))
      rw [hfin] at htx
      have e1 : 65 - (dg u :: l).length = 65 - l.length - 1 := by simp; omega
      have e2 : (dg u :: l).length = 65 - (65 - l.length - 1) := by simp; omega
      rw [e1, e2] at htx
      obtain ⟨x0, hx0⟩ := HS.out.cell (65 - l.length - 1) (by omega)
      have fz := HS.out.frozen (65 - l.length - 1)
      have HB2 := Lib.hid (HB.out.setCell (p := ⟨w.heap.size, 65 - l.length - 1, none⟩) (Nat.le_refl _) (.int .u8 (((dg u).toNat : Nat) : Int)))
      obtain ⟨d, hd⟩ : ∃ d : Int, d = (((dg u).toNat : Nat) : Int) := ⟨_, rfl⟩
      rw [← hd] at htx HB2
      simp only [← hd] at hix
      obtain ⟨p, hp⟩ : ∃ p : Nat, p = 65 - l.length - 1 := ⟨_, rfl⟩
      have hp1 : ((65 - l.length : Nat) : Int) = (p : Int) + 1 := by omega
      have hp2 : p ≤ 64 := by omega
      rw [← hp] at htx HB2 hx0 fz
      rw [hp1]
      have hun : ¬ (16 : Int) ≤ (u : Int) := by omega
      have hsl : ∀ W, (Instr.sliceAt 143 (.pointer (some ⟨w.heap.size, 0, none⟩)) (some (.int .i64 (p : Int))) none none).run Tryz.prog W = .ok (.slice (some ⟨w.heap.size, p, none⟩) (65 - p) (65 - p)) W := fun W => slice65 W _ p hp2
      clear hst hfin e1 e2 hd HS HR hp hp1 hl3
      go_wp2
      go_ret2
      exact ⟨rfl, HB2.out⟩
    · have hm := Nat.mod_lt u (show 0 < 16 by omega)
      have hix := fun W => hexdigit W (u % 16) hm
      have hst := HS.out.step (by omega) (dg (u % 16))
      obtain ⟨x0, hx0⟩ := HS.out.cell (65 - l.length - 1) (by omega)
      have fz := HS.out.frozen (65 - l.length - 1)
      have hrr : nm 16 (u / 16) ++ (dg (u % 16) :: l) = nm 16 n := by
        rw [← HR.out, nm_step (b := 16) (n := u) (by omega) hlt, List.append_assoc]
        rfl
      have hl2 : (dg (u % 16) :: l).length ≤ 3 := by
        have h1 := congrArg List.length hrr
        have h2 := HN4.out
        have h3 : 0 < (nm 16 (u / 16)).length := List.length_pos_iff.2 (nm_ne (by omega) _)
        rw [List.length_append] at h1
        omega
      have HB2 := Lib.hid (HB.out.setCell (p := ⟨w.heap.size, 65 - l.length - 1, none⟩) (Nat.le_refl _) (.int .u8 (((dg (u % 16)).toNat : Nat) : Int)))
      have HS2 := Lib.hid hst
      have HR2 := Lib.hid hrr
      have HL2 := Lib.hid hl2
      have hand := and15 u (by omega)
      have hsh := shr4 u
      obtain ⟨q, hq⟩ : ∃ q : Nat, q = u / 16 := ⟨_, rfl⟩
      have HQ := Lib.hid (show q < u by omega)
      obtain ⟨r, hr⟩ : ∃ r : Nat, r = u % 16 := ⟨_, rfl⟩
      rw [← hq] at HR2 hsh
      rw [← hr] at hand HS2 HB2 HR2 HL2
      simp only [← hr] at hix
      obtain ⟨d, hd⟩ : ∃ d : Int, d = (((dg r).toNat : Nat) : Int) := ⟨_, rfl⟩
      rw [← hd] at HS2 HB2
      simp only [← hd] at hix
      obtain ⟨p, hp⟩ : ∃ p : Nat, p = 65 - l.length - 1 := ⟨_, rfl⟩
      have hp1 : ((65 - l.length : Nat) : Int) = (p : Int) + 1 := by omega
      have hp2 : p ≤ 64 := by omega
      have HP := Lib.hid (show p = 65 - (dg r :: l).length by simp; omega)
      rw [← hp] at HS2 HB2 hx0 fz
      rw [hp1]
      have hun : (16 : Int) ≤ (u : Int) := by omega
      clear hst hd HS HR hp hp1 hl3 hrr hl2 hq hr hm HB hlt
      go_wp2
      go_roundw
      case rel => exact ⟨q, dg r :: l, by have := HQ.out; omega, HL2.out, by go_num, by rw [← HP.out], HR2, HS2, HB2⟩
      case measure =>
        have := HQ.out
        simp [intOf]
        omega

end Go.Proofs.YtpllhnknejceiaaGreatDoor.hw
