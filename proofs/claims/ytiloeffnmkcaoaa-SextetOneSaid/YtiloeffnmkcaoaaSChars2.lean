/-
  Given for the seat's laws: what a call of the function that hands out letters gives. No condition but those of the theorems.
-/
import Derived.Test.YtiloeffnmkcaoaaSChars
namespace Go.Proofs.Ytiloeffnmkcaoaa.sx
open Go.RowKit mem
set_option linter.unusedVariables false

theorem or8 {q v : Nat} (hq : q < 72057594037927936) (hv : v < 256) : bits .or .u64 ((256 * q : Nat) : Int) (v : Int) = ((256 * q + v : Nat) : Int) := by
  rw [u64_or_nat _ _ (by omega) (by omega), show (256 * q : Nat) = 2 ^ 8 * q from rfl, Nat.two_pow_add_eq_or_of_lt (show v < 2 ^ 8 from hv)]
theorem wrap_shl8 {B : Nat} : IntKind.u64.wrap ((B : Int) * 256) = ((256 * (B % 72057594037927936) : Nat) : Int) := by
  rw [IntKind.wrap_u64]; omega
theorem letter_at (z : Int) (m : Nat) (hz : z = (m : Int)) (hm : m < 64) (W : World) : (Instr.index 9 (.string AB) (.int .u64 z)).run Try.prog W = .ok (.int .u8 ((lt m).toNat : Int)) W := by
  subst hz; exact letter_u W m hm

section
variable {W : World} {bh bb bx : Nat} {ok : Nat → Prop} {r : Nat}
theorem Ch.apart {h : Nat} {l : Str} (H : Ch W bh bb bx ok h r l) : bh ≠ bb ∧ bh ≠ bx ∧ bb ≠ bx := by
  obtain ⟨⟨B, hB, _⟩, hl, A, n, c, hc, hs⟩ := H
  exact ⟨hl.apart hc (by decide), hl.apart hB (by decide), hc.apart hB (by decide)⟩

set_option maxHeartbeats 4000000 in
set_option maxRecDepth 100000 in
theorem chars_more0 {a : UInt8} {q : Str} (H : Ch W bh bb bx ok 0 r (a :: q)) (hr : r < 2 ^ 0) (hok : ∀ g, ok g → g ≠ bh ∧ g ≠ bb ∧ g ≠ bx) (hq : q.length ≤ 100000) :
    Calls Try.prog 28 #[.pointer (some ⟨bh, 0, none⟩), .pointer (some ⟨bb, 0, none⟩), .pointer (some ⟨bx, 0, none⟩)] W (ChTo bh bb bx ok 0 r (a :: q) W) := by
  obtain ⟨n1, n2, n3⟩ := H.apart
  obtain ⟨⟨B, hB, hBb, hBr⟩, hl, A, n, c, hc, hs⟩ := H
  have hn := spell_len hs
  simp only [List.length_cons] at hn
  obtain ⟨g, off, rfl, hg, kx⟩ := spell_cell hs (i := 0) (x := a) rfl
  rw [Nat.add_zero] at kx
  obtain ⟨m1, m2, m3⟩ := hok g hg
  have ha := a.toNat_lt
  have hcap := hs.cap
  have hmax := hs.max
  obtain ⟨X, hX⟩ : ∃ X : Nat, X = 256 * (B % 72057594037927936) + a.toNat := ⟨_, rfl⟩
  have e1 := wrap_shl8 (B := B)
  have e2 := or8 (q := B % 72057594037927936) (v := a.toNat) (by omega) ha
  rw [← hX] at e2
  obtain ⟨Y, hY⟩ : ∃ Y : Nat, Y = 256 * (B % 72057594037927936) := ⟨_, rfl⟩
  rw [← hY] at e1 e2
  have hXb : X < 18446744073709551616 := by omega
  have h2 : (2 : Nat) ^ 0 = 1 := rfl
  rw [h2] at hBr hr
  have x1 : X / 4 % 64 = (r * 256 + a.toNat) / 4 := by omega
  have x2 : X % 4 = (r * 256 + a.toNat) % 4 := by omega
  have hix := letter_at ((X : Int) / 4 % 64) (X / 4 % 64) (by omega) (by omega)
  obtain ⟨d, hd⟩ : ∃ d, lt (X / 4 % 64) = d := ⟨_, rfl⟩
  rw [hd] at hix
  have q1 : ∀ W, (Instr.slice 22 (.slice (some ⟨g, off, none⟩) n c) (some (.int .i64 1)) none none).run Try.prog W = .ok (.slice (cutA (some ⟨g, off, none⟩) c 1) (n - 1) (c - 1)) W := fun W => cut_l W (some ⟨g, off, none⟩) n c 1 (by omega)
  have hs1 : Spell W ok (cutA (some ⟨g, off, none⟩) c 1) (n - 1) (c - 1) q := by
    have h1 := hs.cut 1 (n - 1) (by omega)
    have h3 : ((ints (a :: q)).drop 1).take (n - 1) = ints q := by
      show (ints q).take (n - 1) = ints q
      rw [List.take_of_length_le (by rw [ints_len]; omega)]
    rw [h3] at h1
    exact h1
  have hnx : nxt 0 r (a :: q) = some (X / 4 % 64, 2, X % 4, q) := by rw [x1, x2]; simp [nxt]
  have HS := Lib.hid hs1; have HNX := Lib.hid hnx; have HD := Lib.hid hd
  have HB := Lib.hid hB; have HL := Lib.hid hl; have HC := Lib.hid hc; have HOK := Lib.hid hok
  have c0 := hl.cell 0; have c1 := hc.cell 0; have c2 := hB.cell 0
  have f0 := hl.frozen 0; have f1 := hc.frozen 0; have f2 := hB.frozen 0
  simp at c0 c1 c2
  have n1' := Ne.symm n1; have n2' := Ne.symm n2; have n3' := Ne.symm n3
  have hn0 : 1 ≤ n := by omega
  clear hX hY hBr x1 x2 hs hs1 hnx hd hB hl hc hok hn h2
  go_enter Try.func28, Try.ntmps28
  go_wp2
  go_still_tail 7, (by kernel_rfl)
  change wpList _ _ _ _ _ W.drew
  have c0' : W.drew.cell? ⟨bh, 0, none⟩ = some (.int .i64 0) := c0
  have c1' : W.drew.cell? ⟨bb, 0, none⟩ = some (.slice (some ⟨g, off, none⟩) n c) := c1
  have c2' : W.drew.cell? ⟨bx, 0, none⟩ = some (.int .u64 (B : Int)) := c2
  have f0' : W.drew.frozen? ⟨bh, 0, none⟩ = false := f0
  have f1' : W.drew.frozen? ⟨bb, 0, none⟩ = false := f1
  have f2' : W.drew.frozen? ⟨bx, 0, none⟩ = false := f2
  have LB : Hid (Lies W.drew bx 53 #[.int .u64 (B : Int)]) := HB
  have LL : Hid (Lies W.drew bh 3 #[.int .i64 0]) := HL
  have LC : Hid (Lies W.drew bb 22 #[.slice (some ⟨g, off, none⟩) n c]) := HC
  have LS : Hid (Spell W.drew ok (cutA (some ⟨g, off, none⟩) c 1) (n - 1) (c - 1) q) := Lib.hid (HS.out.keep fun _ _ => rfl)
  have HT := Lib.hid ((ChTurn.refl W bh bb bx).drew)
  clear c0 c1 c2 f0 f1 f2 HB HL HC HS kx
  generalize W.drew = w2 at *
  have e0 : IntKind.u64.wrap (a.toNat : Int) = (a.toNat : Int) := by rw [IntKind.wrap_u64]; omega
  obtain ⟨v1, hv1⟩ : ∃ v : Value, v = .int .u64 (X : Int) := ⟨_, rfl⟩
  obtain ⟨v3, hv3⟩ : ∃ v : Value, v = .slice (cutA (some ⟨g, off, none⟩) c 1) (n - 1) (c - 1) := ⟨_, rfl⟩
  have LH1 := (((LL.out.far (p := ⟨bx, 0, none⟩) n2 v1).set 0 (.int .i64 8)).far (p := ⟨bb, 0, none⟩) n1 v3).set 0 (.int .i64 2)
  have LX1 := ((((LB.out.set 0 v1).far (p := ⟨bh, 0, none⟩) n2' (.int .i64 8)).far (p := ⟨bb, 0, none⟩) n3' v3).far (p := ⟨bh, 0, none⟩) n2' (.int .i64 2))
  have LC1 := ((((LC.out.far (p := ⟨bx, 0, none⟩) n3 v1).far (p := ⟨bh, 0, none⟩) n1' (.int .i64 8)).set 0 v3).far (p := ⟨bh, 0, none⟩) n1' (.int .i64 2))
  have HT1 := Lib.hid ((((HT.out.set (.inr (.inr rfl)) v1).set (.inl rfl) (.int .i64 8)).set (.inr (.inl rfl)) v3).set (.inl rfl) (.int .i64 2))
  have k0 := LH1.cell 0
  have k2 := LX1.cell 0
  simp only [List.setIfInBounds_toArray, List.set_cons_zero, List.getElem?_toArray, List.getElem?_cons_zero] at k0 k2
  have hsp := LS.out.keep (w' := (((w2.setCell ⟨bx, 0, none⟩ v1).setCell ⟨bh, 0, none⟩ (.int .i64 8)).setCell ⟨bb, 0, none⟩ v3).setCell ⟨bh, 0, none⟩ (.int .i64 2)) (fun k hk => by
    obtain ⟨y1, y2, y3⟩ := HOK.out k hk
    exact (Below.heap_setCell _ _ _ _ y1).trans ((Below.heap_setCell _ _ _ _ y2).trans ((Below.heap_setCell _ _ _ _ y1).trans (Below.heap_setCell _ _ _ _ y3))))
  subst hv1 hv3
  have HCH := Lib.hid (show Ch ((((w2.setCell ⟨bx, 0, none⟩ (.int .u64 (X : Int))).setCell ⟨bh, 0, none⟩ (.int .i64 8)).setCell ⟨bb, 0, none⟩ (.slice (cutA (some ⟨g, off, none⟩) c 1) (n - 1) (c - 1))).setCell ⟨bh, 0, none⟩ (.int .i64 2)) bh bb bx ok 2 (X % 4) q from
    ⟨⟨X, LX1, hXb, rfl⟩, LH1, _, _, _, LC1, hsp⟩)
  clear LH1 LX1 LC1 hsp LB LL LC LS HT HOK
  go_wp2
  go_ret2
  refine ⟨HT1.out, ?_⟩
  rw [HNX.out]
  exact ⟨by rw [HD.out]; rfl, HCH.out⟩

set_option maxHeartbeats 4000000 in
set_option maxRecDepth 100000 in
theorem chars_more2 {a : UInt8} {q : Str} (H : Ch W bh bb bx ok 2 r (a :: q)) (hr : r < 2 ^ 2) (hok : ∀ g, ok g → g ≠ bh ∧ g ≠ bb ∧ g ≠ bx) (hq : q.length ≤ 100000) :
    Calls Try.prog 28 #[.pointer (some ⟨bh, 0, none⟩), .pointer (some ⟨bb, 0, none⟩), .pointer (some ⟨bx, 0, none⟩)] W (ChTo bh bb bx ok 2 r (a :: q) W) := by
  obtain ⟨n1, n2, n3⟩ := H.apart
  obtain ⟨⟨B, hB, hBb, hBr⟩, hl, A, n, c, hc, hs⟩ := H
  have hn := spell_len hs
  simp only [List.length_cons] at hn
  obtain ⟨g, off, rfl, hg, kx⟩ := spell_cell hs (i := 0) (x := a) rfl
  rw [Nat.add_zero] at kx
  obtain ⟨m1, m2, m3⟩ := hok g hg
  have ha := a.toNat_lt
  have hcap := hs.cap
  have hmax := hs.max
  obtain ⟨X, hX⟩ : ∃ X : Nat, X = 256 * (B % 72057594037927936) + a.toNat := ⟨_, rfl⟩
  have e1 := wrap_shl8 (B := B)
  have e2 := or8 (q := B % 72057594037927936) (v := a.toNat) (by omega) ha
  rw [← hX] at e2
  obtain ⟨Y, hY⟩ : ∃ Y : Nat, Y = 256 * (B % 72057594037927936) := ⟨_, rfl⟩
  rw [← hY] at e1 e2
  have hXb : X < 18446744073709551616 := by omega
  have h2 : (2 : Nat) ^ 2 = 4 := rfl
  rw [h2] at hBr hr
  have x1 : X / 16 % 64 = (r * 256 + a.toNat) / 16 := by omega
  have x2 : X % 16 = (r * 256 + a.toNat) % 16 := by omega
  have hix := letter_at ((X : Int) / 16 % 64) (X / 16 % 64) (by omega) (by omega)
  obtain ⟨d, hd⟩ : ∃ d, lt (X / 16 % 64) = d := ⟨_, rfl⟩
  rw [hd] at hix
  have q1 : ∀ W, (Instr.slice 22 (.slice (some ⟨g, off, none⟩) n c) (some (.int .i64 1)) none none).run Try.prog W = .ok (.slice (cutA (some ⟨g, off, none⟩) c 1) (n - 1) (c - 1)) W := fun W => cut_l W (some ⟨g, off, none⟩) n c 1 (by omega)
  have hs1 : Spell W ok (cutA (some ⟨g, off, none⟩) c 1) (n - 1) (c - 1) q := by
    have h1 := hs.cut 1 (n - 1) (by omega)
    have h3 : ((ints (a :: q)).drop 1).take (n - 1) = ints q := by
      show (ints q).take (n - 1) = ints q
      rw [List.take_of_length_le (by rw [ints_len]; omega)]
    rw [h3] at h1
    exact h1
  have hnx : nxt 2 r (a :: q) = some (X / 16 % 64, 4, X % 16, q) := by rw [x1, x2]; simp [nxt]
  have HS := Lib.hid hs1; have HNX := Lib.hid hnx; have HD := Lib.hid hd
  have HB := Lib.hid hB; have HL := Lib.hid hl; have HC := Lib.hid hc; have HOK := Lib.hid hok
  have c0 := hl.cell 0; have c1 := hc.cell 0; have c2 := hB.cell 0
  have f0 := hl.frozen 0; have f1 := hc.frozen 0; have f2 := hB.frozen 0
  simp at c0 c1 c2
  have n1' := Ne.symm n1; have n2' := Ne.symm n2; have n3' := Ne.symm n3
  have hn0 : 1 ≤ n := by omega
  clear hX hY hBr x1 x2 hs hs1 hnx hd hB hl hc hok hn h2
  go_enter Try.func28, Try.ntmps28
  go_wp2
  go_still_tail 7, (by kernel_rfl)
  change wpList _ _ _ _ _ W.drew
  have c0' : W.drew.cell? ⟨bh, 0, none⟩ = some (.int .i64 2) := c0
  have c1' : W.drew.cell? ⟨bb, 0, none⟩ = some (.slice (some ⟨g, off, none⟩) n c) := c1
  have c2' : W.drew.cell? ⟨bx, 0, none⟩ = some (.int .u64 (B : Int)) := c2
  have f0' : W.drew.frozen? ⟨bh, 0, none⟩ = false := f0
  have f1' : W.drew.frozen? ⟨bb, 0, none⟩ = false := f1
  have f2' : W.drew.frozen? ⟨bx, 0, none⟩ = false := f2
  have LB : Hid (Lies W.drew bx 53 #[.int .u64 (B : Int)]) := HB
  have LL : Hid (Lies W.drew bh 3 #[.int .i64 2]) := HL
  have LC : Hid (Lies W.drew bb 22 #[.slice (some ⟨g, off, none⟩) n c]) := HC
  have LS : Hid (Spell W.drew ok (cutA (some ⟨g, off, none⟩) c 1) (n - 1) (c - 1) q) := Lib.hid (HS.out.keep fun _ _ => rfl)
  have HT := Lib.hid ((ChTurn.refl W bh bb bx).drew)
  clear c0 c1 c2 f0 f1 f2 HB HL HC HS kx
  generalize W.drew = w2 at *
  have e0 : IntKind.u64.wrap (a.toNat : Int) = (a.toNat : Int) := by rw [IntKind.wrap_u64]; omega
  obtain ⟨v1, hv1⟩ : ∃ v : Value, v = .int .u64 (X : Int) := ⟨_, rfl⟩
  obtain ⟨v3, hv3⟩ : ∃ v : Value, v = .slice (cutA (some ⟨g, off, none⟩) c 1) (n - 1) (c - 1) := ⟨_, rfl⟩
  have LH1 := (((LL.out.far (p := ⟨bx, 0, none⟩) n2 v1).set 0 (.int .i64 10)).far (p := ⟨bb, 0, none⟩) n1 v3).set 0 (.int .i64 4)
  have LX1 := ((((LB.out.set 0 v1).far (p := ⟨bh, 0, none⟩) n2' (.int .i64 10)).far (p := ⟨bb, 0, none⟩) n3' v3).far (p := ⟨bh, 0, none⟩) n2' (.int .i64 4))
  have LC1 := ((((LC.out.far (p := ⟨bx, 0, none⟩) n3 v1).far (p := ⟨bh, 0, none⟩) n1' (.int .i64 10)).set 0 v3).far (p := ⟨bh, 0, none⟩) n1' (.int .i64 4))
  have HT1 := Lib.hid ((((HT.out.set (.inr (.inr rfl)) v1).set (.inl rfl) (.int .i64 10)).set (.inr (.inl rfl)) v3).set (.inl rfl) (.int .i64 4))
  have k0 := LH1.cell 0
  have k2 := LX1.cell 0
  simp only [List.setIfInBounds_toArray, List.set_cons_zero, List.getElem?_toArray, List.getElem?_cons_zero] at k0 k2
  have hsp := LS.out.keep (w' := (((w2.setCell ⟨bx, 0, none⟩ v1).setCell ⟨bh, 0, none⟩ (.int .i64 10)).setCell ⟨bb, 0, none⟩ v3).setCell ⟨bh, 0, none⟩ (.int .i64 4)) (fun k hk => by
    obtain ⟨y1, y2, y3⟩ := HOK.out k hk
    exact (Below.heap_setCell _ _ _ _ y1).trans ((Below.heap_setCell _ _ _ _ y2).trans ((Below.heap_setCell _ _ _ _ y1).trans (Below.heap_setCell _ _ _ _ y3))))
  subst hv1 hv3
  have HCH := Lib.hid (show Ch ((((w2.setCell ⟨bx, 0, none⟩ (.int .u64 (X : Int))).setCell ⟨bh, 0, none⟩ (.int .i64 10)).setCell ⟨bb, 0, none⟩ (.slice (cutA (some ⟨g, off, none⟩) c 1) (n - 1) (c - 1))).setCell ⟨bh, 0, none⟩ (.int .i64 4)) bh bb bx ok 4 (X % 16) q from
    ⟨⟨X, LX1, hXb, rfl⟩, LH1, _, _, _, LC1, hsp⟩)
  clear LH1 LX1 LC1 hsp LB LL LC LS HT HOK
  go_wp2
  go_ret2
  refine ⟨HT1.out, ?_⟩
  rw [HNX.out]
  exact ⟨by rw [HD.out]; rfl, HCH.out⟩

set_option maxHeartbeats 4000000 in
set_option maxRecDepth 100000 in
theorem chars_more4 {a : UInt8} {q : Str} (H : Ch W bh bb bx ok 4 r (a :: q)) (hr : r < 2 ^ 4) (hok : ∀ g, ok g → g ≠ bh ∧ g ≠ bb ∧ g ≠ bx) (hq : q.length ≤ 100000) :
    Calls Try.prog 28 #[.pointer (some ⟨bh, 0, none⟩), .pointer (some ⟨bb, 0, none⟩), .pointer (some ⟨bx, 0, none⟩)] W (ChTo bh bb bx ok 4 r (a :: q) W) := by
  obtain ⟨n1, n2, n3⟩ := H.apart
  obtain ⟨⟨B, hB, hBb, hBr⟩, hl, A, n, c, hc, hs⟩ := H
  have hn := spell_len hs
  simp only [List.length_cons] at hn
  obtain ⟨g, off, rfl, hg, kx⟩ := spell_cell hs (i := 0) (x := a) rfl
  rw [Nat.add_zero] at kx
  obtain ⟨m1, m2, m3⟩ := hok g hg
  have ha := a.toNat_lt
  have hcap := hs.cap
  have hmax := hs.max
  obtain ⟨X, hX⟩ : ∃ X : Nat, X = 256 * (B % 72057594037927936) + a.toNat := ⟨_, rfl⟩
  have e1 := wrap_shl8 (B := B)
  have e2 := or8 (q := B % 72057594037927936) (v := a.toNat) (by omega) ha
  rw [← hX] at e2
  obtain ⟨Y, hY⟩ : ∃ Y : Nat, Y = 256 * (B % 72057594037927936) := ⟨_, rfl⟩
  rw [← hY] at e1 e2
  have hXb : X < 18446744073709551616 := by omega
  have h2 : (2 : Nat) ^ 4 = 16 := rfl
  rw [h2] at hBr hr
  have x1 : X / 64 % 64 = (r * 256 + a.toNat) / 64 := by omega
  have x2 : X % 64 = (r * 256 + a.toNat) % 64 := by omega
  have hix := letter_at ((X : Int) / 64 % 64) (X / 64 % 64) (by omega) (by omega)
  obtain ⟨d, hd⟩ : ∃ d, lt (X / 64 % 64) = d := ⟨_, rfl⟩
  rw [hd] at hix
  have q1 : ∀ W, (Instr.slice 22 (.slice (some ⟨g, off, none⟩) n c) (some (.int .i64 1)) none none).run Try.prog W = .ok (.slice (cutA (some ⟨g, off, none⟩) c 1) (n - 1) (c - 1)) W := fun W => cut_l W (some ⟨g, off, none⟩) n c 1 (by omega)
  have hs1 : Spell W ok (cutA (some ⟨g, off, none⟩) c 1) (n - 1) (c - 1) q := by
    have h1 := hs.cut 1 (n - 1) (by omega)
    have h3 : ((ints (a :: q)).drop 1).take (n - 1) = ints q := by
      show (ints q).take (n - 1) = ints q
      rw [List.take_of_length_le (by rw [ints_len]; omega)]
    rw [h3] at h1
    exact h1
  have hnx : nxt 4 r (a :: q) = some (X / 64 % 64, 6, X % 64, q) := by rw [x1, x2]; simp [nxt]
  have HS := Lib.hid hs1; have HNX := Lib.hid hnx; have HD := Lib.hid hd
  have HB := Lib.hid hB; have HL := Lib.hid hl; have HC := Lib.hid hc; have HOK := Lib.hid hok
  have c0 := hl.cell 0; have c1 := hc.cell 0; have c2 := hB.cell 0
  have f0 := hl.frozen 0; have f1 := hc.frozen 0; have f2 := hB.frozen 0
  simp at c0 c1 c2
  have n1' := Ne.symm n1; have n2' := Ne.symm n2; have n3' := Ne.symm n3
  have hn0 : 1 ≤ n := by omega
  clear hX hY hBr x1 x2 hs hs1 hnx hd hB hl hc hok hn h2
  go_enter Try.func28, Try.ntmps28
  go_wp2
  go_still_tail 7, (by kernel_rfl)
  change wpList _ _ _ _ _ W.drew
  have c0' : W.drew.cell? ⟨bh, 0, none⟩ = some (.int .i64 4) := c0
  have c1' : W.drew.cell? ⟨bb, 0, none⟩ = some (.slice (some ⟨g, off, none⟩) n c) := c1
  have c2' : W.drew.cell? ⟨bx, 0, none⟩ = some (.int .u64 (B : Int)) := c2
  have f0' : W.drew.frozen? ⟨bh, 0, none⟩ = false := f0
  have f1' : W.drew.frozen? ⟨bb, 0, none⟩ = false := f1
  have f2' : W.drew.frozen? ⟨bx, 0, none⟩ = false := f2
  have LB : Hid (Lies W.drew bx 53 #[.int .u64 (B : Int)]) := HB
  have LL : Hid (Lies W.drew bh 3 #[.int .i64 4]) := HL
  have LC : Hid (Lies W.drew bb 22 #[.slice (some ⟨g, off, none⟩) n c]) := HC
  have LS : Hid (Spell W.drew ok (cutA (some ⟨g, off, none⟩) c 1) (n - 1) (c - 1) q) := Lib.hid (HS.out.keep fun _ _ => rfl)
  have HT := Lib.hid ((ChTurn.refl W bh bb bx).drew)
  clear c0 c1 c2 f0 f1 f2 HB HL HC HS kx
  generalize W.drew = w2 at *
  have e0 : IntKind.u64.wrap (a.toNat : Int) = (a.toNat : Int) := by rw [IntKind.wrap_u64]; omega
  obtain ⟨v1, hv1⟩ : ∃ v : Value, v = .int .u64 (X : Int) := ⟨_, rfl⟩
  obtain ⟨v3, hv3⟩ : ∃ v : Value, v = .slice (cutA (some ⟨g, off, none⟩) c 1) (n - 1) (c - 1) := ⟨_, rfl⟩
  have LH1 := (((LL.out.far (p := ⟨bx, 0, none⟩) n2 v1).set 0 (.int .i64 12)).far (p := ⟨bb, 0, none⟩) n1 v3).set 0 (.int .i64 6)
  have LX1 := ((((LB.out.set 0 v1).far (p := ⟨bh, 0, none⟩) n2' (.int .i64 12)).far (p := ⟨bb, 0, none⟩) n3' v3).far (p := ⟨bh, 0, none⟩) n2' (.int .i64 6))
  have LC1 := ((((LC.out.far (p := ⟨bx, 0, none⟩) n3 v1).far (p := ⟨bh, 0, none⟩) n1' (.int .i64 12)).set 0 v3).far (p := ⟨bh, 0, none⟩) n1' (.int .i64 6))
  have HT1 := Lib.hid ((((HT.out.set (.inr (.inr rfl)) v1).set (.inl rfl) (.int .i64 12)).set (.inr (.inl rfl)) v3).set (.inl rfl) (.int .i64 6))
  have k0 := LH1.cell 0
  have k2 := LX1.cell 0
  simp only [List.setIfInBounds_toArray, List.set_cons_zero, List.getElem?_toArray, List.getElem?_cons_zero] at k0 k2
  have hsp := LS.out.keep (w' := (((w2.setCell ⟨bx, 0, none⟩ v1).setCell ⟨bh, 0, none⟩ (.int .i64 12)).setCell ⟨bb, 0, none⟩ v3).setCell ⟨bh, 0, none⟩ (.int .i64 6)) (fun k hk => by
    obtain ⟨y1, y2, y3⟩ := HOK.out k hk
    exact (Below.heap_setCell _ _ _ _ y1).trans ((Below.heap_setCell _ _ _ _ y2).trans ((Below.heap_setCell _ _ _ _ y1).trans (Below.heap_setCell _ _ _ _ y3))))
  subst hv1 hv3
  have HCH := Lib.hid (show Ch ((((w2.setCell ⟨bx, 0, none⟩ (.int .u64 (X : Int))).setCell ⟨bh, 0, none⟩ (.int .i64 12)).setCell ⟨bb, 0, none⟩ (.slice (cutA (some ⟨g, off, none⟩) c 1) (n - 1) (c - 1))).setCell ⟨bh, 0, none⟩ (.int .i64 6)) bh bb bx ok 6 (X % 64) q from
    ⟨⟨X, LX1, hXb, rfl⟩, LH1, _, _, _, LC1, hsp⟩)
  clear LH1 LX1 LC1 hsp LB LL LC LS HT HOK
  go_wp2
  go_ret2
  refine ⟨HT1.out, ?_⟩
  rw [HNX.out]
  exact ⟨by rw [HD.out]; rfl, HCH.out⟩

set_option maxHeartbeats 4000000 in
set_option maxRecDepth 100000 in
theorem chars_end (H : Ch W bh bb bx ok 0 r []) :
    Calls Try.prog 28 #[.pointer (some ⟨bh, 0, none⟩), .pointer (some ⟨bb, 0, none⟩), .pointer (some ⟨bx, 0, none⟩)] W (ChTo bh bb bx ok 0 r [] W) := by
  have HH := Lib.hid H
  obtain ⟨⟨B, hB, hBb, hBr⟩, hl, A, n, c, hc, hs⟩ := H
  have hn := spell_len hs
  obtain rfl : n = 0 := by simpa using hn.symm
  have c0 := hl.cell 0; have c1 := hc.cell 0
  simp at c0 c1
  clear hs hB hl hc hn hBr hBb
  go_enter Try.func28, Try.ntmps28
  go_wp2
  go_ret2
  exact ⟨ChTurn.refl _ _ _ _, rfl, HH.out⟩

set_option maxHeartbeats 4000000 in
set_option maxRecDepth 100000 in
theorem chars_six {l : Str} (H : Ch W bh bb bx ok 6 r l) (hr : r < 2 ^ 6) (hok : ∀ g, ok g → g ≠ bh ∧ g ≠ bb ∧ g ≠ bx) :
    Calls Try.prog 28 #[.pointer (some ⟨bh, 0, none⟩), .pointer (some ⟨bb, 0, none⟩), .pointer (some ⟨bx, 0, none⟩)] W (ChTo bh bb bx ok 6 r l W) := by
  obtain ⟨n1, n2, n3⟩ := H.apart
  obtain ⟨⟨B, hB, hBb, hBr⟩, hl, A, n, c, hc, hs⟩ := H
  have h2 : (2 : Nat) ^ 6 = 64 := rfl
  rw [h2] at hBr hr
  have n1' := Ne.symm n1; have n2' := Ne.symm n2
  have hix := letter_at ((B : Int) % 64) r (by omega) hr
  obtain ⟨d, hd⟩ : ∃ d, lt r = d := ⟨_, rfl⟩
  rw [hd] at hix
  have HD := Lib.hid hd
  have LH1 := hl.set 0 (.int .i64 0)
  have LX1 := hB.far (p := ⟨bh, 0, none⟩) n2' (.int .i64 0)
  have LC1 := hc.far (p := ⟨bh, 0, none⟩) n1' (.int .i64 0)
  have HT1 := Lib.hid ((ChTurn.refl W bh bb bx).set (.inl rfl) (.int .i64 0))
  have c0 := hl.cell 0
  have f0 := hl.frozen 0
  have k0 := LH1.cell 0
  have k2 := LX1.cell 0
  simp only [List.setIfInBounds_toArray, List.set_cons_zero, List.getElem?_toArray, List.getElem?_cons_zero] at c0 k0 k2
  have hsp := hs.keep (w' := W.setCell ⟨bh, 0, none⟩ (.int .i64 0)) (fun k hk => Below.heap_setCell _ _ _ _ (hok k hk).1)
  have HCH := Lib.hid (show Ch (W.setCell ⟨bh, 0, none⟩ (.int .i64 0)) bh bb bx ok 0 0 l from ⟨⟨B, LX1, hBb, by show _ % 1 = _; omega⟩, LH1, _, _, _, LC1, hsp⟩)
  have hnx : nxt 6 r l = some (r, 0, 0, l) := by simp [nxt]; omega
  have HNX := Lib.hid hnx
  have c0' : W.cell? ⟨bh, 0, none⟩ = some (.int .i64 6) := c0
  clear c0 LH1 LX1 LC1 hsp hnx hs hB hl hc hok hd hBr h2
  go_enter Try.func28, Try.ntmps28
  go_wp2
  go_ret2
  refine ⟨HT1.out, ?_⟩
  rw [HNX.out]
  exact ⟨by rw [HD.out]; rfl, HCH.out⟩

set_option maxHeartbeats 4000000 in
set_option maxRecDepth 100000 in
theorem chars_last2 (H : Ch W bh bb bx ok 2 r []) (hr : r < 2 ^ 2) (hok : ∀ g, ok g → g ≠ bh ∧ g ≠ bb ∧ g ≠ bx) :
    Calls Try.prog 28 #[.pointer (some ⟨bh, 0, none⟩), .pointer (some ⟨bb, 0, none⟩), .pointer (some ⟨bx, 0, none⟩)] W (ChTo bh bb bx ok 2 r [] W) := by
  obtain ⟨n1, n2, n3⟩ := H.apart
  obtain ⟨⟨B, hB, hBb, hBr⟩, hl, A, n, c, hc, hs⟩ := H
  have hn := spell_len hs
  obtain rfl : n = 0 := by simpa using hn.symm
  have h2 : (2 : Nat) ^ 2 = 4 := rfl
  rw [h2] at hBr hr
  have n1' := Ne.symm n1; have n2' := Ne.symm n2; have n3' := Ne.symm n3
  obtain ⟨X, hX⟩ : ∃ X : Nat, X = B * 16 % 18446744073709551616 := ⟨_, rfl⟩
  have e1 : IntKind.u64.wrap ((B : Int) * 16) = (X : Int) := by rw [IntKind.wrap_u64, hX]; omega
  have hXb : X < 18446744073709551616 := by omega
  have x1 : X % 64 = r * 16 := by omega
  have hix := letter_at ((X : Int) % 64) (r * 16) (by omega) (by omega)
  obtain ⟨d, hd⟩ : ∃ d, lt (r * 16) = d := ⟨_, rfl⟩
  rw [hd] at hix
  have HD := Lib.hid hd
  obtain ⟨v1, hv1⟩ : ∃ v : Value, v = .int .u64 (X : Int) := ⟨_, rfl⟩
  have LH0 := (hl.far (p := ⟨bx, 0, none⟩) n2 v1).set 0 (.int .i64 6)
  have LH1 := LH0.set 0 (.int .i64 0)
  have LX1 := ((hB.set 0 v1).far (p := ⟨bh, 0, none⟩) n2' (.int .i64 6)).far (p := ⟨bh, 0, none⟩) n2' (.int .i64 0)
  have LC1 := ((hc.far (p := ⟨bx, 0, none⟩) n3 v1).far (p := ⟨bh, 0, none⟩) n1' (.int .i64 6)).far (p := ⟨bh, 0, none⟩) n1' (.int .i64 0)
  have HT1 := Lib.hid ((((ChTurn.refl W bh bb bx).set (.inr (.inr rfl)) v1).set (.inl rfl) (.int .i64 6)).set (.inl rfl) (.int .i64 0))
  have c0 := hl.cell 0
  have c1 := hc.cell 0
  have c2 := hB.cell 0
  have f0 := hl.frozen 0
  have f2 := hB.frozen 0
  have k0 := LH1.cell 0
  have k2 := LX1.cell 0
  have j0 := LH0.cell 0
  simp only [List.setIfInBounds_toArray, List.set_cons_zero, List.getElem?_toArray, List.getElem?_cons_zero] at c0 c1 c2 j0 k0 k2
  have hsp := hs.keep (w' := ((W.setCell ⟨bx, 0, none⟩ v1).setCell ⟨bh, 0, none⟩ (.int .i64 6)).setCell ⟨bh, 0, none⟩ (.int .i64 0)) (fun k hk => by
    obtain ⟨y1, y2, y3⟩ := hok k hk
    exact (Below.heap_setCell _ _ _ _ y1).trans ((Below.heap_setCell _ _ _ _ y1).trans (Below.heap_setCell _ _ _ _ y3)))
  subst hv1
  have HCH := Lib.hid (show Ch (((W.setCell ⟨bx, 0, none⟩ (.int .u64 (X : Int))).setCell ⟨bh, 0, none⟩ (.int .i64 6)).setCell ⟨bh, 0, none⟩ (.int .i64 0)) bh bb bx ok 0 0 [] from ⟨⟨X, LX1, hXb, by show _ % 1 = _; omega⟩, LH1, _, _, _, LC1, hsp⟩)
  have hnx : nxt 2 r [] = some (r * 16, 0, 0, []) := by simp [nxt]
  have HNX := Lib.hid hnx
  have c0' : W.cell? ⟨bh, 0, none⟩ = some (.int .i64 2) := c0
  clear c0 LH0 LH1 LX1 LC1 hsp hnx hs hB hl hc hok hd hBr h2 x1 hX hn
  go_enter Try.func28, Try.ntmps28
  go_wp2
  go_ret2
  refine ⟨HT1.out, ?_⟩
  rw [HNX.out]
  exact ⟨by rw [HD.out]; rfl, HCH.out⟩

set_option maxHeartbeats 4000000 in
set_option maxRecDepth 100000 in
theorem chars_last4 (H : Ch W bh bb bx ok 4 r []) (hr : r < 2 ^ 4) (hok : ∀ g, ok g → g ≠ bh ∧ g ≠ bb ∧ g ≠ bx) :
    Calls Try.prog 28 #[.pointer (some ⟨bh, 0, none⟩), .pointer (some ⟨bb, 0, none⟩), .pointer (some ⟨bx, 0, none⟩)] W (ChTo bh bb bx ok 4 r [] W) := by
  obtain ⟨n1, n2, n3⟩ := H.apart
  obtain ⟨⟨B, hB, hBb, hBr⟩, hl, A, n, c, hc, hs⟩ := H
  have hn := spell_len hs
  obtain rfl : n = 0 := by simpa using hn.symm
  have h2 : (2 : Nat) ^ 4 = 16 := rfl
  rw [h2] at hBr hr
  have n1' := Ne.symm n1; have n2' := Ne.symm n2; have n3' := Ne.symm n3
  obtain ⟨X, hX⟩ : ∃ X : Nat, X = B * 4 % 18446744073709551616 := ⟨_, rfl⟩
  have e1 : IntKind.u64.wrap ((B : Int) * 4) = (X : Int) := by rw [IntKind.wrap_u64, hX]; omega
  have hXb : X < 18446744073709551616 := by omega
  have x1 : X % 64 = r * 4 := by omega
  have hix := letter_at ((X : Int) % 64) (r * 4) (by omega) (by omega)
  obtain ⟨d, hd⟩ : ∃ d, lt (r * 4) = d := ⟨_, rfl⟩
  rw [hd] at hix
  have HD := Lib.hid hd
  obtain ⟨v1, hv1⟩ : ∃ v : Value, v = .int .u64 (X : Int) := ⟨_, rfl⟩
  have LH0 := (hl.far (p := ⟨bx, 0, none⟩) n2 v1).set 0 (.int .i64 6)
  have LH1 := LH0.set 0 (.int .i64 0)
  have LX1 := ((hB.set 0 v1).far (p := ⟨bh, 0, none⟩) n2' (.int .i64 6)).far (p := ⟨bh, 0, none⟩) n2' (.int .i64 0)
  have LC1 := ((hc.far (p := ⟨bx, 0, none⟩) n3 v1).far (p := ⟨bh, 0, none⟩) n1' (.int .i64 6)).far (p := ⟨bh, 0, none⟩) n1' (.int .i64 0)
  have HT1 := Lib.hid ((((ChTurn.refl W bh bb bx).set (.inr (.inr rfl)) v1).set (.inl rfl) (.int .i64 6)).set (.inl rfl) (.int .i64 0))
  have c0 := hl.cell 0
  have c1 := hc.cell 0
  have c2 := hB.cell 0
  have f0 := hl.frozen 0
  have f2 := hB.frozen 0
  have k0 := LH1.cell 0
  have k2 := LX1.cell 0
  have j0 := LH0.cell 0
  simp only [List.setIfInBounds_toArray, List.set_cons_zero, List.getElem?_toArray, List.getElem?_cons_zero] at c0 c1 c2 j0 k0 k2
  have hsp := hs.keep (w' := ((W.setCell ⟨bx, 0, none⟩ v1).setCell ⟨bh, 0, none⟩ (.int .i64 6)).setCell ⟨bh, 0, none⟩ (.int .i64 0)) (fun k hk => by
    obtain ⟨y1, y2, y3⟩ := hok k hk
    exact (Below.heap_setCell _ _ _ _ y1).trans ((Below.heap_setCell _ _ _ _ y1).trans (Below.heap_setCell _ _ _ _ y3)))
  subst hv1
  have HCH := Lib.hid (show Ch (((W.setCell ⟨bx, 0, none⟩ (.int .u64 (X : Int))).setCell ⟨bh, 0, none⟩ (.int .i64 6)).setCell ⟨bh, 0, none⟩ (.int .i64 0)) bh bb bx ok 0 0 [] from ⟨⟨X, LX1, hXb, by show _ % 1 = _; omega⟩, LH1, _, _, _, LC1, hsp⟩)
  have hnx : nxt 4 r [] = some (r * 4, 0, 0, []) := by simp [nxt]
  have HNX := Lib.hid hnx
  have c0' : W.cell? ⟨bh, 0, none⟩ = some (.int .i64 4) := c0
  clear c0 LH0 LH1 LX1 LC1 hsp hnx hs hB hl hc hok hd hBr h2 x1 hX hn
  go_enter Try.func28, Try.ntmps28
  go_wp2
  go_ret2
  refine ⟨HT1.out, ?_⟩
  rw [HNX.out]
  exact ⟨by rw [HD.out]; rfl, HCH.out⟩

/-- a call of it, whatever it holds -/
theorem chars1_any {h : Nat} {l : Str} (H : Ch W bh bb bx ok h r l) (hh : h = 0 ∨ h = 2 ∨ h = 4 ∨ h = 6) (hr : r < 2 ^ h) (hok : ∀ g, ok g → g ≠ bh ∧ g ≠ bb ∧ g ≠ bx) (hq : l.length ≤ 100000) :
    Calls Try.prog 28 #[.pointer (some ⟨bh, 0, none⟩), .pointer (some ⟨bb, 0, none⟩), .pointer (some ⟨bx, 0, none⟩)] W (ChTo bh bb bx ok h r l W) := by
  rcases hh with rfl | rfl | rfl | rfl
  · cases l with
    | nil => exact chars_end H
    | cons a q => exact chars_more0 H hr hok (by simp at hq; omega)
  · cases l with
    | nil => exact chars_last2 H hr hok
    | cons a q => exact chars_more2 H hr hok (by simp at hq; omega)
  · cases l with
    | nil => exact chars_last4 H hr hok
    | cons a q => exact chars_more4 H hr hok (by simp at hq; omega)
  · exact chars_six H hr hok
end
end Go.Proofs.Ytiloeffnmkcaoaa.sx
