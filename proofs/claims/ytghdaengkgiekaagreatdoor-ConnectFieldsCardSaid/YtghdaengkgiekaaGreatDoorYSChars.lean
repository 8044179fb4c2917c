/-
  Given for the seat's laws: the function that hands out the letters of bytes, one behind the other. No condition but those of the theorems.
-/
import Derived.Test.YtghdaengkgiekaaGreatDoorYSREnc
import Derived.Deep.LoopGhost
namespace Go.Proofs.YtghdaengkgiekaaGreatDoor.sx
open Go.RowKit mem
set_option linter.unusedVariables false

/-- what the function holds: so many bits, what is left of the bytes, the bits -/
structure Ch (W : World) (bh bb bx : Nat) (ok : Nat → Prop) (h r : Nat) (l : Str) : Prop where
  ch : ∃ B : Nat, Lies W bx 124 #[.int .u64 (B : Int)] ∧ B < 18446744073709551616 ∧ B % 2 ^ h = r
  cl : Lies W bh 3 #[.int .i64 (h : Int)]
  cb : ∃ A n c, Lies W bb 29 #[.slice A n c] ∧ Spell W ok A n c l
theorem Ch.keep {W W' : World} {bh bb bx : Nat} {ok : Nat → Prop} {h r : Nat} {l : Str} (H : Ch W bh bb bx ok h r l) (h1 : W'.heap[bh]? = W.heap[bh]?) (h2 : W'.heap[bb]? = W.heap[bb]?) (h3 : W'.heap[bx]? = W.heap[bx]?) (hok : ∀ g, ok g → W'.heap[g]? = W.heap[g]?) : Ch W' bh bb bx ok h r l := by
  obtain ⟨⟨B, hB, hb⟩, hl, A, n, c, hc, hs⟩ := H
  exact ⟨⟨B, hB.of_same h3, hb⟩, hl.of_same h1, A, n, c, hc.of_same h2, hs.keep hok⟩

/-- what of the world a call of it turns -/
structure ChTurn (W W' : World) (bh bb bx : Nat) : Prop where
  os : W'.os = W.os
  tape : W'.tape = W.tape
  output : W'.output = W.output
  size : W'.heap.size = W.heap.size
  block : ∀ g, g ≠ bh → g ≠ bb → g ≠ bx → W'.heap[g]? = W.heap[g]?
theorem ChTurn.refl (W : World) (bh bb bx : Nat) : ChTurn W W bh bb bx := ⟨rfl, rfl, rfl, rfl, fun _ _ _ _ => rfl⟩
theorem ChTurn.drew {W W' : World} {bh bb bx : Nat} (h : ChTurn W W' bh bb bx) : ChTurn W W'.drew bh bb bx := ⟨h.os, h.tape, h.output, h.size, h.block⟩
theorem ChTurn.set {W W' : World} {bh bb bx : Nat} (h : ChTurn W W' bh bb bx) {g : Nat} (hg : g = bh ∨ g = bb ∨ g = bx) (v : Value) : ChTurn W (W'.setCell ⟨g, 0, none⟩ v) bh bb bx :=
  ⟨h.os, h.tape, h.output, by simp [World.setCell, h.size], fun k h1 h2 h3 => (Below.heap_setCell _ _ _ _ (by rcases hg with rfl | rfl | rfl <;> assumption)).trans (h.block k h1 h2 h3)⟩

def ChTo (bh bb bx : Nat) (ok : Nat → Prop) (h r : Nat) (l : Str) (W : World) (e : Ending) (W' : World) : Prop :=
  ChTurn W W' bh bb bx ∧ match nxt h r l with
  | none => e = .returned (.tuple #[.int .u8 0, .bool false]) ∧ Ch W' bh bb bx ok h r l
  | some (c, h', r', l') => e = .returned (.tuple #[.int .u8 ((lt c).toNat : Int), .bool true]) ∧ Ch W' bh bb bx ok h' r' l'

theorem chars_any (A : Option Addr) (n c : Nat) (w : World) : Calls Tryz.prog 58 #[.slice A n c] w fun e w' =>
    e = .returned (.func (.func 85) #[] #[.pointer (some ⟨w.heap.size + 1 + 1, 0, none⟩), .pointer (some ⟨w.heap.size, 0, none⟩), .pointer (some ⟨w.heap.size + 1, 0, none⟩)]) ∧
    w' = ((w.alloc (.cells #[.slice A n c] 29)).alloc (.cells #[.int .u64 0] 124)).alloc (.cells #[.int .i64 0] 3) := by
  go_enter Tryz.func58, Tryz.ntmps58
  go_wp2
  go_ret
  exact ⟨rfl, rfl⟩
theorem ch_new {w : World} {ok : Nat → Prop} {A : Option Addr} {n c : Nat} {l : Str} (hs : Spell w ok A n c l) (hok : ∀ g, ok g → g < w.heap.size) :
    Ch (((w.alloc (.cells #[.slice A n c] 29)).alloc (.cells #[.int .u64 0] 124)).alloc (.cells #[.int .i64 0] 3)) (w.heap.size + 1 + 1) w.heap.size (w.heap.size + 1) ok 0 0 l := by
  have h1 := Lies.new w 29 #[.slice A n c]
  have h2 := Lies.new (w.alloc (.cells #[.slice A n c] 29)) 124 #[.int .u64 0]
  have h3 := Lies.new ((w.alloc (.cells #[.slice A n c] 29)).alloc (.cells #[.int .u64 0] 124)) 3 #[.int .i64 0]
  have z1 : (w.alloc (.cells #[.slice A n c] 29)).heap.size = w.heap.size + 1 := by simp
  have z2 : ((w.alloc (.cells #[.slice A n c] 29)).alloc (.cells #[.int .u64 0] 124)).heap.size = w.heap.size + 1 + 1 := by simp
  rw [z1] at h2
  rw [z2] at h3
  have hb : Below w.heap.size w (((w.alloc (.cells #[.slice A n c] 29)).alloc (.cells #[.int .u64 0] 124)).alloc (.cells #[.int .i64 0] 3)) :=
    (((Below.refl _ _).alloc (Nat.le_refl _) _).alloc (by simp) _).alloc (by simp; omega) _
  exact ⟨⟨0, h2.alloc _, by omega, rfl⟩, h3, A, n, c, (h1.alloc _).alloc _, hs.below hb hok⟩
end Go.Proofs.YtghdaengkgiekaaGreatDoor.sx

/-
  Given for the seat's laws: what a call of the function that hands out letters gives. No condition but those of the theorems.
-/
namespace Go.Proofs.YtghdaengkgiekaaGreatDoor.sx
open Go.RowKit mem
set_option linter.unusedVariables false

theorem or8 {q v : Nat} (hq : q < 72057594037927936) (hv : v < 256) : bits .or .u64 ((256 * q : Nat) : Int) (v : Int) = ((256 * q + v : Nat) : Int) := by
  rw [u64_or_nat _ _ (by omega) (by omega), show (256 * q : Nat) = 2 ^ 8 * q from rfl, Nat.two_pow_add_eq_or_of_lt (show v < 2 ^ 8 from hv)]
theorem wrap_shl8 {B : Nat} : IntKind.u64.wrap ((B : Int) * 256) = ((256 * (B % 72057594037927936) : Nat) : Int) := by
  rw [IntKind.wrap_u64]; omega
theorem letter_at (z : Int) (m : Nat) (hz : z = (m : Int)) (hm : m < 64) (W : World) : (Instr.index 9 (.string AB) (.int .u64 z)).run Tryz.prog W = .ok (.int .u8 ((lt m).toNat : Int)) W := by
  subst hz; exact letter_u W m hm

section
variable {W : World} {bh bb bx : Nat} {ok : Nat → Prop} {r : Nat}
theorem Ch.apart {h : Nat} {l : Str} (H : Ch W bh bb bx ok h r l) : bh ≠ bb ∧ bh ≠ bx ∧ bb ≠ bx := by
  obtain ⟨⟨B, hB, _⟩, hl, A, n, c, hc, hs⟩ := H
  exact ⟨hl.apart hc (by decide), hl.apart hB (by decide), hc.apart hB (by decide)⟩

set_option maxHeartbeats 4000000 in
set_option maxRecDepth 100000 in
theorem chars_more0 {a : UInt8} {q : Str} (H : Ch W bh bb bx ok 0 r (a :: q)) (hr : r < 2 ^ 0) (hok : ∀ g, ok g → g ≠ bh ∧ g ≠ bb ∧ g ≠ bx) (hq : q.length ≤ 100000) :
    Calls Tryz.prog 85 #[.pointer (some ⟨bh, 0, none⟩), .pointer (some ⟨bb, 0, none⟩), .pointer (some ⟨bx, 0, none⟩)] W (ChTo bh bb bx ok 0 r (a :: q) W) := by
  obtain ⟨n1, n2, n3⟩ := H.apart
  obtain ⟨⟨B, hB, hBb, hBr⟩, hl, A, n, c, hc, hs⟩ := H
  have hn := spell_len hs
  simp only [List.length_cons] at hn
  obtain ⟨g, off, rfl, hg, kx⟩ := spell_cell hs (i := 0) (x := a) rfl
  rw [Nat.add_zero] at kx
  obtain ⟨m1, m2, m3⟩ := hok g hg
  have ha := a.toNat_lt
  have hcap := hs.cap
  have hmax := hs.max
  obtain ⟨X, hX⟩ : ∃ X : Nat, X = 256 * (B % 72057594037927936) + a.toNat := ⟨_, rfl⟩
  have e1 := wrap_shl8 (B := B)
  have e2 := or8 (q := B % 72057594037927936) (v := a.toNat) (by omega) ha
  rw [← hX] at e2
  obtain ⟨Y, hY⟩ : ∃ Y : Nat, Y = 256 * (B % 72057594037927936) := ⟨_, rfl⟩
  rw [← hY] at e1 e2
  have hXb : X < 18446744073709551616 := by omega
  have h2 : (2 : Nat) ^ 0 = 1 := rfl
  rw [h2] at hBr hr
  have x1 : X / 4 % 64 = (r * 256 + a.toNat) / 4 := by omega
  have x2 : X % 4 = (r * 256 + a.toNat) % 4 := by omega
  have hix := letter_at ((X : Int) / 4 % 64) (X / 4 % 64) (by omega) (by omega)
  obtain ⟨d, hd⟩ : ∃ d, lt (X / 4 % 64) = d := ⟨_, rfl⟩
  rw [hd] at hix
  have q1 : ∀ W, (Instr.slice 29 (.slice (some ⟨g, off, none⟩) n c) (some (.int .i64 1)) none none).run Tryz.prog W = .ok (.slice (cutA (some ⟨g, off, none⟩) c 1) (n - 1) (c - 1)) W := fun W => cut_l W (some ⟨g, off, none⟩) n c 1 (by omega)
  have hs1 : Spell W ok (cutA (some ⟨g, off, none⟩) c 1) (n - 1) (c - 1) q := by
    have h1 := hs.cut 1 (n - 1) (by omega)
    have h3 : ((ints (a :: q)).drop 1).take (n - 1) = ints q := by
      show (ints q).take (n - 1) = ints q
      rw [List.take_of_length_le (by rw [ints_len]; omega)]
    rw [h3] at h1
    exact h1
  have hnx : nxt 0 r (a :: q) = some (X / 4 % 64, 2, X % 4, q) := by rw [x1, x2]; simp [nxt]
  have HS := Lib.hid hs1; have HNX := Lib.hid hnx; have HD := Lib.hid hd
  have HB := Lib.hid hB; have HL := Lib.hid hl; have HC := Lib.hid hc; have HOK := Lib.hid hok
  have c0 := hl.cell 0; have c1 := hc.cell 0; have c2 := hB.cell 0
  have f0 := hl.frozen 0; have f1 := hc.frozen 0; have f2 := hB.frozen 0
  simp at c0 c1 c2
  have n1' := Ne.symm n1; have n2' := Ne.symm n2; have n3' := Ne.symm n3
  have hn0 : 1 ≤ n := by omega
  clear hX hY hBr x1 x2 hs hs1 hnx hd hB hl hc hok hn h2
  go_enter Tryz.func85, Tryz.ntmps85
  go_wp2
  go_still_tail 7, (by kernel_rfl)
  change wpList _ _ _ _ _ W.drew
  have c0' : W.drew.cell? ⟨bh, 0, none⟩ = some (.int .i64 0) := c0
  have c1' : W.drew.cell? ⟨bb, 0, none⟩ = some (.slice (some ⟨g, off, none⟩) n c) := c1
  have c2' : W.drew.cell? ⟨bx, 0, none⟩ = some (.int .u64 (B : Int)) := c2
  have f0' : W.drew.frozen? ⟨bh, 0, none⟩ = false := f0
  have f1' : W.drew.frozen? ⟨bb, 0, none⟩ = false := f1
  have f2' : W.drew.frozen? ⟨bx, 0, none⟩ = false := f2
  have LB : Hid (Lies W.drew bx 124 #[.int .u64 (B : Int)]) := HB
  have LL : Hid (Lies W.drew bh 3 #[.int .i64 0]) := HL
  have LC : Hid (Lies W.drew bb 29 #[.slice (some ⟨g, off, none⟩) n c]) := HC
  have LS : Hid (Spell W.drew ok (cutA (some ⟨g, off, none⟩) c 1) (n - 1) (c - 1) q) := Lib.hid (HS.out.keep fun _ _ => rfl)
  have HT := Lib.hid ((ChTurn.refl W bh bb bx).drew)
  clear c0 c1 c2 f0 f1 f2 HB HL HC HS kx
  generalize W.drew = w2 at *
  have e0 : IntKind.u64.wrap (a.toNat : Int) = (a.toNat : Int) := by rw [IntKind.wrap_u64]; omega
  obtain ⟨v1, hv1⟩ : ∃ v : Value, v = .int .u64 (X : Int) := ⟨_, rfl⟩
  obtain ⟨v3, hv3⟩ : ∃ v : Value, v = .slice (cutA (some ⟨g, off, none⟩) c 1) (n - 1) (c - 1) := ⟨_, rfl⟩
  have LH1 := (((LL.out.far (p := ⟨bx, 0, none⟩) n2 v1).set 0 (.int .i64 8)).far (p := ⟨bb, 0, none⟩) n1 v3).set 0 (.int .i64 2)
  have LX1 := ((((LB.out.set 0 v1).far (p := ⟨bh, 0, none⟩) n2' (.int .i64 8)).far (p := ⟨bb, 0, none⟩) n3' v3).far (p := ⟨bh, 0, none⟩) n2' (.int .i64 2))
  have LC1 := ((((LC.out.far (p := ⟨bx, 0, none⟩) n3 v1).far (p := ⟨bh, 0, none⟩) n1' (.int .i64 8)).set 0 v3).far (p := ⟨bh, 0, none⟩) n1' (.int .i64 2))
  have HT1 := Lib.hid ((((HT.out.set (.inr (.inr rfl)) v1).set (.inl rfl) (.int .i64 8)).set (.inr (.inl rfl)) v3).set (.inl rfl) (.int .i64 2))
  have k0 := LH1.cell 0
  have k2 := LX1.cell 0
  simp only [List.setIfInBounds_toArray, List.set_cons_zero, List.getElem?_toArray, List.getElem?_cons_zero] at k0 k2
  have hsp := LS.out.keep (w' := (((w2.setCell ⟨bx, 0, none⟩ v1).setCell ⟨bh, 0, none⟩ (.int .i64 8)).setCell ⟨bb, 0, none⟩ v3).setCell ⟨bh, 0, none⟩ (.int .i64 2)) (fun k hk => by
    obtain ⟨y1, y2, y3⟩ := HOK.out k hk
    exact (Below.heap_setCell _ _ _ _ y1).trans ((Below.heap_setCell _ _ _ _ y2).trans ((Below.heap_setCell _ _ _ _ y1).trans (Below.heap_setCell _ _ _ _ y3))))
  subst hv1 hv3
  have HCH := Lib.hid (show Ch ((((w2.setCell ⟨bx, 0, none⟩ (.int .u64 (X : Int))).setCell ⟨bh, 0, none⟩ (.int .i64 8)).setCell ⟨bb, 0, none⟩ (.slice (cutA (some ⟨g, off, none⟩) c 1) (n - 1) (c - 1))).setCell ⟨bh, 0, none⟩ (.int .i64 2)) bh bb bx ok 2 (X % 4) q from
    ⟨⟨X, LX1, hXb, rfl⟩, LH1, _, _, _, LC1, hsp⟩)
  clear LH1 LX1 LC1 hsp LB LL LC LS HT HOK
  go_wp2
  go_ret2
  refine ⟨HT1.out, ?_⟩
  rw [HNX.out]
  exact ⟨by rw [HD.out]; rfl, HCH.out⟩

set_option maxHeartbeats 4000000 in
set_option maxRecDepth 100000 in
theorem chars_more2 {a : UInt8} {q : Str} (H : Ch W bh bb bx ok 2 r (a :: q)) (hr : r < 2 ^ 2) (hok : ∀ g, ok g → g ≠ bh ∧ g ≠ bb ∧ g ≠ bx) (hq : q.length ≤ 100000) :
    Calls Tryz.prog 85 #[.pointer (some ⟨bh, 0, none⟩), .pointer (some ⟨bb, 0, none⟩), .pointer (some ⟨bx, 0, none⟩)] W (ChTo bh bb bx ok 2 r (a :: q) W) := by
  obtain ⟨n1, n2, n3⟩ := H.apart
  obtain ⟨⟨B, hB, hBb, hBr⟩, hl, A, n, c, hc, hs⟩ := H
  have hn := spell_len hs
  simp only [List.length_cons] at hn
  obtain ⟨g, off, rfl, hg, kx⟩ := spell_cell hs (i := 0) (x := a) rfl
  rw [Nat.add_zero] at kx
  obtain ⟨m1, m2, m3⟩ := hok g hg
  have ha := a.toNat_lt
  have hcap := hs.cap
  have hmax := hs.max
  obtain ⟨X, hX⟩ : ∃ X : Nat, X = 256 * (B % 72057594037927936) + a.toNat := ⟨_, rfl⟩
  have e1 := wrap_shl8 (B := B)
  have e2 := or8 (q := B % 72057594037927936) (v := a.toNat) (by omega) ha
  rw [← hX] at e2
  obtain ⟨Y, hY⟩ : ∃ Y : Nat, Y = 256 * (B % 72057594037927936) := ⟨_, rfl⟩
  rw [← hY] at e1 e2
  have hXb : X < 18446744073709551616 := by omega
  have h2 : (2 : Nat) ^ 2 = 4 := rfl
  rw [h2] at hBr hr
  have x1 : X / 16 % 64 = (r * 256 + a.toNat) / 16 := by omega
  have x2 : X % 16 = (r * 256 + a.toNat) % 16 := by omega
  have hix := letter_at ((X : Int) / 16 % 64) (X / 16 % 64) (by omega) (by omega)
  obtain ⟨d, hd⟩ : ∃ d, lt (X / 16 % 64) = d := ⟨_, rfl⟩
  rw [hd] at hix
  have q1 : ∀ W, (Instr.slice 29 (.slice (some ⟨g, off, none⟩) n c) (some (.int .i64 1)) none none).run Tryz.prog W = .ok (.slice (cutA (some ⟨g, off, none⟩) c 1) (n - 1) (c - 1)) W := fun W => cut_l W (some ⟨g, off, none⟩) n c 1 (by omega)
  have hs1 : Spell W ok (cutA (some ⟨g, off, none⟩) c 1) (n - 1) (c - 1) q := by
    have h1 := hs.cut 1 (n - 1) (by omega)
    have h3 : ((ints (a :: q)).drop 1).take (n - 1) = ints q := by
      show (ints q).take (n - 1) = ints q
      rw [List.take_of_length_le (by rw [ints_len]; omega)]
    rw [h3] at h1
    exact h1
  have hnx : nxt 2 r (a :: q) = some (X / 16 % 64, 4, X % 16, q) := by rw [x1, x2]; simp [nxt]
  have HS := Lib.hid hs1; have HNX := Lib.hid hnx; have HD := Lib.hid hd
  have HB := Lib.hid hB; have HL := Lib.hid hl; have HC := Lib.hid hc; have HOK := Lib.hid hok
  have c0 := hl.cell 0; have c1 := hc.cell 0; have c2 := hB.cell 0
  have f0 := hl.frozen 0; have f1 := hc.frozen 0; have f2 := hB.frozen 0
  simp at c0 c1 c2
  have n1' := Ne.symm n1; have n2' := Ne.symm n2; have n3' := Ne.symm n3
  have hn0 : 1 ≤ n := by omega
  clear hX hY hBr x1 x2 hs hs1 hnx hd hB hl hc hok hn h2
  go_enter Tryz.func85, Tryz.ntmps85
  go_wp2
  go_still_tail 7, (by kernel_rfl)
  change wpList _ _ _ _ _ W.drew
  have c0' : W.drew.cell? ⟨bh, 0, none⟩ = some (.int .i64 2) := c0
  have c1' : W.drew.cell? ⟨bb, 0, none⟩ = some (.slice (some ⟨g, off, none⟩) n c) := c1
  have c2' : W.drew.cell? ⟨bx, 0, none⟩ = some (.int .u64 (B : Int)) := c2
  have f0' : W.drew.frozen? ⟨bh, 0, none⟩ = false := f0
  have f1' : W.drew.frozen? ⟨bb, 0, none⟩ = false := f1
  have f2' : W.drew.frozen? ⟨bx, 0, none⟩ = false := f2
  have LB : Hid (Lies W.drew bx 124 #[.int .u64 (B : Int)]) := HB
  have LL : Hid (Lies W.drew bh 3 #[.int .i64 2]) := HL
  have LC : Hid (Lies W.drew bb 29 #[.slice (some ⟨g, off, none⟩) n c]) := HC
  have LS : Hid (Spell W.drew ok (cutA (some ⟨g, off, none⟩) c 1) (n - 1) (c - 1) q) := Lib.hid (HS.out.keep fun _ _ => rfl)
  have HT := Lib.hid ((ChTurn.refl W bh bb bx).drew)
  clear c0 c1 c2 f0 f1 f2 HB HL HC HS kx
  generalize W.drew = w2 at *
  have e0 : IntKind.u64.wrap (a.toNat : Int) = (a.toNat : Int) := by rw [IntKind.wrap_u64]; omega
  obtain ⟨v1, hv1⟩ : ∃ v : Value, v = .int .u64 (X : Int) := ⟨_, rfl⟩
  obtain ⟨v3, hv3⟩ : ∃ v : Value, v = .slice (cutA (some ⟨g, off, none⟩) c 1) (n - 1) (c - 1) := ⟨_, rfl⟩
  have LH1 := (((LL.out.far (p := ⟨bx, 0, none⟩) n2 v1).set 0 (.int .i64 10)).far (p := ⟨bb, 0, none⟩) n1 v3).set 0 (.int .i64 4)
  have LX1 := ((((LB.out.set 0 v1).far (p := ⟨bh, 0, none⟩) n2' (.int .i64 10)).far (p := ⟨bb, 0, none⟩) n3' v3).far (p := ⟨bh, 0, none⟩) n2' (.int .i64 4))
  have LC1 := ((((LC.out.far (p := ⟨bx, 0, none⟩) n3 v1).far (p := ⟨bh, 0, none⟩) n1' (.int .i64 10)).set 0 v3).far (p := ⟨bh, 0, none⟩) n1' (.int .i64 4))
  have HT1 := Lib.hid ((((HT.out.set (.inr (.inr rfl)) v1).set (.inl rfl) (.int .i64 10)).set (.inr (.inl rfl)) v3).set (.inl rfl) (.int .i64 4))
  have k0 := LH1.cell 0
  have k2 := LX1.cell 0
  simp only [List.setIfInBounds_toArray, List.set_cons_zero, List.getElem?_toArray, List.getElem?_cons_zero] at k0 k2
  have hsp := LS.out.keep (w' := (((w2.setCell ⟨bx, 0, none⟩ v1).setCell ⟨bh, 0, none⟩ (.int .i64 10)).setCell ⟨bb, 0, none⟩ v3).setCell ⟨bh, 0, none⟩ (.int .i64 4)) (fun k hk => by
    obtain ⟨y1, y2, y3⟩ := HOK.out k hk
    exact (Below.heap_setCell _ _ _ _ y1).trans ((Below.heap_setCell _ _ _ _ y2).trans ((Below.heap_setCell _ _ _ _ y1).trans (Below.heap_setCell _ _ _ _ y3))))
  subst hv1 hv3
  have HCH := Lib.hid (show Ch ((((w2.setCell ⟨bx, 0, none⟩ (.int .u64 (X : Int))).setCell ⟨bh, 0, none⟩ (.int .i64 10)).setCell ⟨bb, 0, none⟩ (.slice (cutA (some ⟨g, off, none⟩) c 1) (n - 1) (c - 1))).setCell ⟨bh, 0, none⟩ (.int .i64 4)) bh bb bx ok 4 (X % 16) q from
    ⟨⟨X, LX1, hXb, rfl⟩, LH1, _, _, _, LC1, hsp⟩)
  clear LH1 LX1 LC1 hsp LB LL LC LS HT HOK
  go_wp2
  go_ret2
  refine ⟨HT1.out, ?_⟩
  rw [HNX.out]
  exact ⟨by rw [HD.out]; rfl, HCH.out⟩

set_option maxHeartbeats 4000000 in
set_option maxRecDepth 100000 in
theorem chars_more4 {a : UInt8} {q : Str} (H : Ch W bh bb bx ok 4 r (a :: q)) (hr : r < 2 ^ 4) (hok : ∀ g, ok g → g ≠ bh ∧ g ≠ bb ∧ g ≠ bx) (hq : q.length ≤ 100000) :
    Calls Tryz.prog 85 #[.pointer (some ⟨bh, 0, none⟩), .pointer (some ⟨bb, 0, none⟩), .pointer (some ⟨bx, 0, none⟩)] W (ChTo bh bb bx ok 4 r (a :: q) W) := by
  obtain ⟨n1, n2, n3⟩ := H.apart
  obtain ⟨⟨B, hB, hBb, hBr⟩, hl, A, n, c, hc, hs⟩ := H
  have hn := spell_len hs
  simp only [List.length_cons] at hn
  obtain ⟨g, off, rfl, hg, kx⟩ := spell_cell hs (i := 0) (x := a) rfl
  rw [Nat.add_zero] at kx
  obtain ⟨m1, m2, m3⟩ := hok g hg
  have ha := a.toNat_lt
  have hcap := hs.cap
  have hmax := hs.max
  obtain ⟨X, hX⟩ : ∃ X : Nat, X = 256 * (B % 72057594037927936) + a.toNat := ⟨_, rfl⟩
  have e1 := wrap_shl8 (B := B)
  have e2 := or8 (q := B % 72057594037927936) (v := a.toNat) (by omega) ha
  rw [← hX] at e2
  obtain ⟨Y, hY⟩ : ∃ Y : Nat, Y = 256 * (B % 72057594037927936) := ⟨_, rfl⟩
  rw [← hY] at e1 e2
  have hXb : X < 18446744073709551616 := by omega
  have h2 : (2 : Nat) ^ 4 = 16 := rfl
  rw [h2] at hBr hr
  have x1 : X / 64 % 64 = (r * 256 + a.toNat) / 64 := by omega
  have x2 : X % 64 = (r * 256 + a.toNat) % 64 := by omega
  have hix := letter_at ((X : Int) / 64 % 64) (X / 64 % 64) (by omega) (by omega)
  obtain ⟨d, hd⟩ : ∃ d, lt (X / 64 % 64) = d := ⟨_, rfl⟩
  rw [hd] at hix
  have q1 : ∀ W, (Instr.slice 29 (.slice (some ⟨g, off, none⟩) n c) (some (.int .i64 1)) none none).run Tryz.prog W = .ok (.slice (cutA (some ⟨g, off, none⟩) c 1) (n - 1) (c - 1)) W := fun W => cut_l W (some ⟨g, off, none⟩) n c 1 (by omega)
  have hs1 : Spell W ok (cutA (some ⟨g, off, none⟩) c 1) (n - 1) (c - 1) q := by
    have h1 := hs.cut 1 (n - 1) (by omega)
    have h3 : ((ints (a :: q)).drop 1).take (n - 1) = ints q := by
      show (ints q).take (n - 1) = ints q
      rw [List.take_of_length_le (by rw [ints_len]; omega)]
    rw [h3] at h1
    exact h1
  have hnx : nxt 4 r (a :: q) = some (X / 64 % 64, 6, X % 64, q) := by rw [x1, x2]; simp [nxt]
  have HS := Lib.hid hs1; have HNX := Lib.hid hnx; have HD := Lib.hid hd
  have HB := Lib.hid hB; have HL := Lib.hid hl; have HC := Lib.hid hc; have HOK := Lib.hid hok
  have c0 := hl.cell 0; have c1 := hc.cell 0; have c2 := hB.cell 0
  have f0 := hl.frozen 0; have f1 := hc.frozen 0; have f2 := hB.frozen 0
  simp at c0 c1 c2
  have n1' := Ne.symm n1; have n2' := Ne.symm n2; have n3' := Ne.symm n3
  have hn0 : 1 ≤ n := by omega
  clear hX hY hBr x1 x2 hs hs1 hnx hd hB hl hc hok hn h2
  go_enter Tryz.func85, Tryz.ntmps85
  go_wp2
  go_still_tail 7, (by kernel_rfl)
  change wpList _ _ _ _ _ W.drew
  have c0' : W.drew.cell? ⟨bh, 0, none⟩ = some (.int .i64 4) := c0
  have c1' : W.drew.cell? ⟨bb, 0, none⟩ = some (.slice (some ⟨g, off, none⟩) n c) := c1
  have c2' : W.drew.cell? ⟨bx, 0, none⟩ = some (.int .u64 (B : Int)) := c2
  have f0' : W.drew.frozen? ⟨bh, 0, none⟩ = false := f0
  have f1' : W.drew.frozen? ⟨bb, 0, none⟩ = false := f1
  have f2' : W.drew.frozen? ⟨bx, 0, none⟩ = false := f2
  have LB : Hid (Lies W.drew bx 124 #[.int .u64 (B : Int)]) := HB
  have LL : Hid (Lies W.drew bh 3 #[.int .i64 4]) := HL
  have LC : Hid (Lies W.drew bb 29 #[.slice (some ⟨g, off, none⟩) n c]) := HC
  have LS : Hid (Spell W.drew ok (cutA (some ⟨g, off, none⟩) c 1) (n - 1) (c - 1) q) := Lib.hid (HS.out.keep fun _ _ => rfl)
  have HT := Lib.hid ((ChTurn.refl W bh bb bx).drew)
  clear c0 c1 c2 f0 f1 f2 HB HL HC HS kx
  generalize W.drew = w2 at *
  have e0 : IntKind.u64.wrap (a.toNat : Int) = (a.toNat : Int) := by rw [IntKind.wrap_u64]; omega
  obtain ⟨v1, hv1⟩ : ∃ v : Value, v = .int .u64 (X : Int) := ⟨_, rfl⟩
  obtain ⟨v3, hv3⟩ : ∃ v : Value, v = .slice (cutA (some ⟨g, off, none⟩) c 1) (n - 1) (c - 1) := ⟨_, rfl⟩
  have LH1 := (((LL.out.far (p := ⟨bx, 0, none⟩) n2 v1).set 0 (.int .i64 12)).far (p := ⟨bb, 0, none⟩) n1 v3).set 0 (.int .i64 6)
  have LX1 := ((((LB.out.set 0 v1).far (p := ⟨bh, 0, none⟩) n2' (.int .i64 12)).far (p := ⟨bb, 0, none⟩) n3' v3).far (p := ⟨bh, 0, none⟩) n2' (.int .i64 6))
  have LC1 := ((((LC.out.far (p := ⟨bx, 0, none⟩) n3 v1).far (p := ⟨bh, 0, none⟩) n1' (.int .i64 12)).set 0 v3).far (p := ⟨bh, 0, none⟩) n1' (.int .i64 6))
  have HT1 := Lib.hid ((((HT.out.set (.inr (.inr rfl)) v1).set (.inl rfl) (.int .i64 12)).set (.inr (.inl rfl)) v3).set (.inl rfl) (.int .i64 6))
  have k0 := LH1.cell 0
  have k2 := LX1.cell 0
  simp only [List.setIfInBounds_toArray, List.set_cons_zero, List.getElem?_toArray, List.getElem?_cons_zero] at k0 k2
  have hsp := LS.out.keep (w' := (((w2.setCell ⟨bx, 0, none⟩ v1).setCell ⟨bh, 0, none⟩ (.int .i64 12)).setCell ⟨bb, 0, none⟩ v3).setCell ⟨bh, 0, none⟩ (.int .i64 6)) (fun k hk => by
    obtain ⟨y1, y2, y3⟩ := HOK.out k hk
    exact (Below.heap_setCell _ _ _ _ y1).trans ((Below.heap_setCell _ _ _ _ y2).trans ((Below.heap_setCell _ _ _ _ y1).trans (Below.heap_setCell _ _ _ _ y3))))
  subst hv1 hv3
  have HCH := Lib.hid (show Ch ((((w2.setCell ⟨bx, 0, none⟩ (.int .u64 (X : Int))).setCell ⟨bh, 0, none⟩ (.int .i64 12)).setCell ⟨bb, 0, none⟩ (.slice (cutA (some ⟨g, off, none⟩) c 1) (n - 1) (c - 1))).setCell ⟨bh, 0, none⟩ (.int .i64 6)) bh bb bx ok 6 (X % 64) q from
    ⟨⟨X, LX1, hXb, rfl⟩, LH1, _, _, _, LC1, hsp⟩)
  clear LH1 LX1 LC1 hsp LB LL LC LS HT HOK
  go_wp2
  go_ret2
  refine ⟨HT1.out, ?_⟩
  rw [HNX.out]
  exact ⟨by rw [HD.out]; rfl, HCH.out⟩

set_option maxHeartbeats 4000000 in
set_option maxRecDepth 100000 in
theorem chars_end (H : Ch W bh bb bx ok 0 r []) :
    Calls Tryz.prog 85 #[.pointer (some ⟨bh, 0, none⟩), .pointer (some ⟨bb, 0, none⟩), .pointer (some ⟨bx, 0, none⟩)] W (ChTo bh bb bx ok 0 r [] W) := by
  have HH := Lib.hid H
  obtain ⟨⟨B, hB, hBb, hBr⟩, hl, A, n, c, hc, hs⟩ := H
  have hn := spell_len hs
  obtain rfl : n = 0 := by simpa using hn.symm
  have c0 := hl.cell 0; have c1 := hc.cell 0
  simp at c0 c1
  clear hs hB hl hc hn hBr hBb
  go_enter Tryz.func85, Tryz.ntmps85
  go_wp2
  go_ret2
  exact ⟨ChTurn.refl _ _ _ _, rfl, HH.out⟩

set_option maxHeartbeats 4000000 in
set_option maxRecDepth 100000 in
theorem chars_six {l : Str} (H : Ch W bh bb bx ok 6 r l) (hr : r < 2 ^ 6) (hok : ∀ g, ok g → g ≠ bh ∧ g ≠ bb ∧ g ≠ bx) :
    Calls Tryz.prog 85 #[.pointer (some ⟨bh, 0, none⟩), .pointer (some ⟨bb, 0, none⟩), .pointer (some ⟨bx, 0, none⟩)] W (ChTo bh bb bx ok 6 r l W) := by
  obtain ⟨n1, n2, n3⟩ := H.apart
  obtain ⟨⟨B, hB, hBb, hBr⟩, hl, A, n, c, hc, hs⟩ := H
  have h2 : (2 : Nat) ^ 6 = 64 := rfl
  rw [h2] at hBr hr
  have n1' := Ne.symm n1; have n2' := Ne.symm n2
  have hix := letter_at ((B : Int) % 64) r (by omega) hr
  obtain ⟨d, hd⟩ : ∃ d, lt r = d := ⟨_, rfl⟩
  rw [hd] at hix
  have HD := Lib.hid hd
  have LH1 := hl.set 0 (.int .i64 0)
  have LX1 := hB.far (p := ⟨bh, 0, none⟩) n2' (.int .i64 0)
  have LC1 := hc.far (p := ⟨bh, 0, none⟩) n1' (.int .i64 0)
  have HT1 := Lib.hid ((ChTurn.refl W bh bb bx).set (.inl rfl) (.int .i64 0))
  have c0 := hl.cell 0
  have f0 := hl.frozen 0
  have k0 := LH1.cell 0
  have k2 := LX1.cell 0
  simp only [List.setIfInBounds_toArray, List.set_cons_zero, List.getElem?_toArray, List.getElem?_cons_zero] at c0 k0 k2
  have hsp := hs.keep (w' := W.setCell ⟨bh, 0, none⟩ (.int .i64 0)) (fun k hk => Below.heap_setCell _ _ _ _ (hok k hk).1)
  have HCH := Lib.hid (show Ch (W.setCell ⟨bh, 0, none⟩ (.int .i64 0)) bh bb bx ok 0 0 l from ⟨⟨B, LX1, hBb, by show _ % 1 = _; omega⟩, LH1, _, _, _, LC1, hsp⟩)
  have hnx : nxt 6 r l = some (r, 0, 0, l) := by simp [nxt]; omega
  have HNX := Lib.hid hnx
  have c0' : W.cell? ⟨bh, 0, none⟩ = some (.int .i64 6) := c0
  clear c0 LH1 LX1 LC1 hsp hnx hs hB hl hc hok hd hBr h2
  go_enter Tryz.func85, Tryz.ntmps85
  go_wp2
  go_ret2
  refine ⟨HT1.out, ?_⟩
  rw [HNX.out]
  exact ⟨by rw [HD.out]; rfl, HCH.out⟩

set_option maxHeartbeats 4000000 in
set_option maxRecDepth 100000 in
theorem chars_last2 (H : Ch W bh bb bx ok 2 r []) (hr : r < 2 ^ 2) (hok : ∀ g, ok g → g ≠ bh ∧ g ≠ bb ∧ g ≠ bx) :
    Calls Tryz.prog 85 #[.pointer (some ⟨bh, 0, none⟩), .pointer (some ⟨bb, 0, none⟩), .pointer (some ⟨bx, 0, none⟩)] W (ChTo bh bb bx ok 2 r [] W) := by
  obtain ⟨n1, n2, n3⟩ := H.apart
  obtain ⟨⟨B, hB, hBb, hBr⟩, hl, A, n, c, hc, hs⟩ := H
  have hn := spell_len hs
  obtain rfl : n = 0 := by simpa using hn.symm
  have h2 : (2 : Nat) ^ 2 = 4 := rfl
  rw [h2] at hBr hr
  have n1' := Ne.symm n1; have n2' := Ne.symm n2; have n3' := Ne.symm n3
  obtain ⟨X, hX⟩ : ∃ X : Nat, X = B * 16 % 18446744073709551616 := ⟨_, rfl⟩
  have e1 : IntKind.u64.wrap ((B : Int) * 16) = (X : Int) := by rw [IntKind.wrap_u64, hX]; omega
  have hXb : X < 18446744073709551616 := by omega
  have x1 : X % 64 = r * 16 := by omega
  have hix := letter_at ((X : Int) % 64) (r * 16) (by omega) (by omega)
  obtain ⟨d, hd⟩ : ∃ d, lt (r * 16) = d := ⟨_, rfl⟩
  rw [hd] at hix
  have HD := Lib.hid hd
  obtain ⟨v1, hv1⟩ : ∃ v : Value, v = .int .u64 (X : Int) := ⟨_, rfl⟩
  have LH0 := (hl.far (p := ⟨bx, 0, none⟩) n2 v1).set 0 (.int .i64 6)
  have LH1 := LH0.set 0 (.int .i64 0)
  have LX1 := ((hB.set 0 v1).far (p := ⟨bh, 0, none⟩) n2' (.int .i64 6)).far (p := ⟨bh, 0, none⟩) n2' (.int .i64 0)
  have LC1 := ((hc.far (p := ⟨bx, 0, none⟩) n3 v1).far (p := ⟨bh, 0, none⟩) n1' (.int .i64 6)).far (p := ⟨bh, 0, none⟩) n1' (.int .i64 0)
  have HT1 := Lib.hid ((((ChTurn.refl W bh bb bx).set (.inr (.inr rfl)) v1).set (.inl rfl) (.int .i64 6)).set (.inl rfl) (.int .i64 0))
  have c0 := hl.cell 0
  have c1 := hc.cell 0
  have c2 := hB.cell 0
  have f0 := hl.frozen 0
  have f2 := hB.frozen 0
  have k0 := LH1.cell 0
  have k2 := LX1.cell 0
  have j0 := LH0.cell 0
  simp only [List.setIfInBounds_toArray, List.set_cons_zero, List.getElem?_toArray, List.getElem?_cons_zero] at c0 c1 c2 j0 k0 k2
  have hsp := hs.keep (w' := ((W.setCell ⟨bx, 0, none⟩ v1).setCell ⟨bh, 0, none⟩ (.int .i64 6)).setCell ⟨bh, 0, none⟩ (.int .i64 0)) (fun k hk => by
    obtain ⟨y1, y2, y3⟩ := hok k hk
    exact (Below.heap_setCell _ _ _ _ y1).trans ((Below.heap_setCell _ _ _ _ y1).trans (Below.heap_setCell _ _ _ _ y3)))
  subst hv1
  have HCH := Lib.hid (show Ch (((W.setCell ⟨bx, 0, none⟩ (.int .u64 (X : Int))).setCell ⟨bh, 0, none⟩ (.int .i64 6)).setCell ⟨bh, 0, none⟩ (.int .i64 0)) bh bb bx ok 0 0 [] from ⟨⟨X, LX1, hXb, by show _ % 1 = _; omega⟩, LH1, _, _, _, LC1, hsp⟩)
  have hnx : nxt 2 r [] = some (r * 16, 0, 0, []) := by simp [nxt]
  have HNX := Lib.hid hnx
  have c0' : W.cell? ⟨bh, 0, none⟩ = some (.int .i64 2) := c0
  clear c0 LH0 LH1 LX1 LC1 hsp hnx hs hB hl hc hok hd hBr h2 x1 hX hn
  go_enter Tryz.func85, Tryz.ntmps85
  go_wp2
  go_ret2
  refine ⟨HT1.out, ?_⟩
  rw [HNX.out]
  exact ⟨by rw [HD.out]; rfl, HCH.out⟩

set_option maxHeartbeats 4000000 in
set_option maxRecDepth 100000 in
theorem chars_last4 (H : Ch W bh bb bx ok 4 r []) (hr : r < 2 ^ 4) (hok : ∀ g, ok g → g ≠ bh ∧ g ≠ bb ∧ g ≠ bx) :
    Calls Tryz.prog 85 #[.pointer (some ⟨bh, 0, none⟩), .pointer (some ⟨bb, 0, none⟩), .pointer (some ⟨bx, 0, none⟩)] W (ChTo bh bb bx ok 4 r [] W) := by
  obtain ⟨n1, n2, n3⟩ := H.apart
  obtain ⟨⟨B, hB, hBb, hBr⟩, hl, A, n, c, hc, hs⟩ := H
  have hn := spell_len hs
  obtain rfl : n = 0 := by simpa using hn.symm
  have h2 : (2 : Nat) ^ 4 = 16 := rfl
  rw [h2] at hBr hr
  have n1' := Ne.symm n1; have n2' := Ne.symm n2; have n3' := Ne.symm n3
  obtain ⟨X, hX⟩ : ∃ X : Nat, X = B * 4 % 18446744073709551616 := ⟨_, rfl⟩
  have e1 : IntKind.u64.wrap ((B : Int) * 4) = (X : Int) := by rw [IntKind.wrap_u64, hX]; omega
  have hXb : X < 18446744073709551616 := by omega
  have x1 : X % 64 = r * 4 := by omega
  have hix := letter_at ((X : Int) % 64) (r * 4) (by omega) (by omega)
  obtain ⟨d, hd⟩ : ∃ d, lt (r * 4) = d := ⟨_, rfl⟩
  rw [hd] at hix
  have HD := Lib.hid hd
  obtain ⟨v1, hv1⟩ : ∃ v : Value, v = .int .u64 (X : Int) := ⟨_, rfl⟩
  have LH0 := (hl.far (p := ⟨bx, 0, none⟩) n2 v1).set 0 (.int .i64 6)
  have LH1 := LH0.set 0 (.int .i64 0)
  have LX1 := ((hB.set 0 v1).far (p := ⟨bh, 0, none⟩) n2' (.int .i64 6)).far (p := ⟨bh, 0, none⟩) n2' (.int .i64 0)
  have LC1 := ((hc.far (p := ⟨bx, 0, none⟩) n3 v1).far (p := ⟨bh, 0, none⟩) n1' (.int .i64 6)).far (p := ⟨bh, 0, none⟩) n1' (.int .i64 0)
  have HT1 := Lib.hid ((((ChTurn.refl W bh bb bx).set (.inr (.inr rfl)) v1).set (.inl rfl) (.int .i64 6)).set (.inl rfl) (.int .i64 0))
  have c0 := hl.cell 0
  have c1 := hc.cell 0
  have c2 := hB.cell 0
  have f0 := hl.frozen 0
  have f2 := hB.frozen 0
  have k0 := LH1.cell 0
  have k2 := LX1.cell 0
  have j0 := LH0.cell 0
  simp only [List.setIfInBounds_toArray, List.set_cons_zero, List.getElem?_toArray, List.getElem?_cons_zero] at c0 c1 c2 j0 k0 k2
  have hsp := hs.keep (w' := ((W.setCell ⟨bx, 0, none⟩ v1).setCell ⟨bh, 0, none⟩ (.int .i64 6)).setCell ⟨bh, 0, none⟩ (.int .i64 0)) (fun k hk => by
    obtain ⟨y1, y2, y3⟩ := hok k hk
    exact (Below.heap_setCell _ _ _ _ y1).trans ((Below.heap_setCell _ _ _ _ y1).trans (Below.heap_setCell _ _ _ _ y3)))
  subst hv1
  have HCH := Lib.hid (show Ch (((W.setCell ⟨bx, 0, none⟩ (.int .u64 (X : Int))).setCell ⟨bh, 0, none⟩ (.int .i64 6)).setCell ⟨bh, 0, none⟩ (.int .i64 0)) bh bb bx ok 0 0 [] from ⟨⟨X, LX1, hXb, by show _ % 1 = _; omega⟩, LH1, _, _, _, LC1, hsp⟩)
  have hnx : nxt 4 r [] = some (r * 4, 0, 0, []) := by simp [nxt]
  have HNX := Lib.hid hnx
  have c0' : W.cell? ⟨bh, 0, none⟩ = some (.int .i64 4) := c0
  clear c0 LH0 LH1 LX1 LC1 hsp hnx hs hB hl hc hok hd hBr h2 x1 hX hn
  go_enter Tryz.func85, Tryz.ntmps85
  go_wp2
  go_ret2
  refine ⟨HT1.out, ?_⟩
  rw [HNX.out]
  exact ⟨by rw [HD.out]; rfl, HCH.out⟩

/-- a call of it, whatever it holds -/
theorem chars1_any {h : Nat} {l : Str} (H : Ch W bh bb bx ok h r l) (hh : h = 0 ∨ h = 2 ∨ h = 4 ∨ h = 6) (hr : r < 2 ^ h) (hok : ∀ g, ok g → g ≠ bh ∧ g ≠ bb ∧ g ≠ bx) (hq : l.length ≤ 100000) :
    Calls Tryz.prog 85 #[.pointer (some ⟨bh, 0, none⟩), .pointer (some ⟨bb, 0, none⟩), .pointer (some ⟨bx, 0, none⟩)] W (ChTo bh bb bx ok h r l W) := by
  rcases hh with rfl | rfl | rfl | rfl
  · cases l with
    | nil => exact chars_end H
    | cons a q => exact chars_more0 H hr hok (by simp at hq; omega)
  · cases l with
    | nil => exact chars_last2 H hr hok
    | cons a q => exact chars_more2 H hr hok (by simp at hq; omega)
  · cases l with
    | nil => exact chars_last4 H hr hok
    | cons a q => exact chars_more4 H hr hok (by simp at hq; omega)
  · exact chars_six H hr hok
end
end Go.Proofs.YtghdaengkgiekaaGreatDoor.sx

/-
  Given for the seat's laws: the contract of the program's Encode. No condition but those of the theorems.
-/
namespace Go.Proofs.YtghdaengkgiekaaGreatDoor.sx
open Go.RowKit mem
set_option linter.unusedVariables false

theorem builder_same {W W' : World} {B b : Nat} {p : Value} {bs : List Value} (H : Lib.BuilderAtF 93 5 B b p bs W) (h1 : W'.heap[b]? = W.heap[b]?) (h2 : ∀ (g : Nat) (cs : Array Value) (fz : Nat × Nat), W.heap[g]? = some (Obj.cells cs 5 fz) → W'.heap[g]? = W.heap[g]?) : Lib.BuilderAtF 93 5 B b p bs W' := by
  obtain ⟨hB, v, hb, ho, hne⟩ := H
  refine ⟨hB, v, h1.trans hb, ⟨ho.1, ?_⟩, hne⟩
  rcases ho.2 with hn | ⟨g, cap, cur, fz, hv, hb2, hg, rest⟩
  · exact .inl hn
  · exact .inr ⟨g, cap, cur, fz, hv, hb2, (h2 g cur fz hg).trans hg, rest⟩
theorem builder_turn {W W' : World} {B b bh bb bx h r : Nat} {ok : Nat → Prop} {l : Str} {p : Value} {bs : List Value} (H : Lib.BuilderAtF 93 5 B b p bs W) (hc : Ch W bh bb bx ok h r l) (ht : ChTurn W W' bh bb bx) (h1 : b ≠ bh) (h2 : b ≠ bb) (h3 : b ≠ bx) : Lib.BuilderAtF 93 5 B b p bs W' := by
  obtain ⟨⟨X, hX, _⟩, hl, A, n, c, hcb, _⟩ := hc
  refine builder_same H (ht.block b h1 h2 h3) fun g cs fz hg => ht.block g ?_ ?_ ?_
  · rintro rfl
    have : W.heap[g]? = some (.cells _ 3 (0, 0)) := hl
    rw [hg] at this
    simp at this
  · rintro rfl
    have : W.heap[g]? = some (.cells _ 29 (0, 0)) := hcb
    rw [hg] at this
    simp at this
  · rintro rfl
    have : W.heap[g]? = some (.cells _ 124 (0, 0)) := hX
    rw [hg] at this
    simp at this

/-- on the way: t is written -/
structure EI (w : World) (b : Str) (bh bb bx : Nat) (t : Str) (h r : Nat) (l : Str) (wr : World) : Prop where
  st : St b t h r l
  ch : Ch wr bh bb bx (fun g => g < w.heap.size) h r l
  bu : Lib.BuilderAtF 93 5 w.heap.size w.heap.size (.pointer (some ⟨w.heap.size, 0, none⟩)) (Lib.byteCells t) wr
  be : Below w.heap.size w wr
  r1 : w.heap.size < bh
  r2 : w.heap.size < bb
  r3 : w.heap.size < bx

section
variable {w wr W' : World} {b t l : Str} {bh bb bx h r : Nat}
theorem EI.ok (E : EI w b bh bb bx t h r l wr) : ∀ g, g < w.heap.size → g ≠ bh ∧ g ≠ bb ∧ g ≠ bx := fun g hg => by
  have := E.r1; have := E.r2; have := E.r3
  exact ⟨by omega, by omega, by omega⟩
theorem EI.turned (E : EI w b bh bb bx t h r l wr) (ht : ChTurn wr W' bh bb bx) : Lib.BuilderAtF 93 5 w.heap.size w.heap.size (.pointer (some ⟨w.heap.size, 0, none⟩)) (Lib.byteCells t) W' ∧ Below w.heap.size w W' := by
  have h1 := E.r1; have h2 := E.r2; have h3 := E.r3
  refine ⟨builder_turn E.bu E.ch ht (by omega) (by omega) (by omega), E.be.trans ⟨ht.os, ht.tape, ht.output, by rw [ht.size]; exact Nat.le_refl _, fun k hk => ht.block k (by omega) (by omega) (by omega)⟩⟩
theorem ch_others {ok : Nat → Prop} (H : Ch wr bh bb bx ok h r l) {B : Nat} (hk : Lib.OthersKept 5 (some B) wr W') (h1 : bh ≠ B) (h2 : bb ≠ B) (h3 : bx ≠ B) (hok : ∀ g, ok g → W'.heap[g]? = wr.heap[g]?) : Ch W' bh bb bx ok h r l := by
  obtain ⟨⟨X, hX, hb⟩, hl, A, n, c, hcb, hs⟩ := H
  have key : ∀ {g : Nat} {T : TypeId} {cs : Array Value}, Lies wr g T cs → g ≠ B → T ≠ 5 → Lies W' g T cs := fun {g T cs} hL hg hT =>
    hk g _ hL (fun e => hg (Option.some.inj e)) (fun c fz e => by simp at e; exact hT e.2.1)
  exact ⟨⟨X, key hX h3 (by decide), hb⟩, key hl h1 (by decide), A, n, c, key hcb h2 (by decide), hs.keep hok⟩
end

theorem byteCells_snoc (t : Str) (x : UInt8) : Lib.byteCells t ++ [.int .u8 (x.toNat : Int)] = Lib.byteCells (t ++ [x]) := by simp [Lib.byteCells]
theorem byteCells_len (t : Str) : (Lib.byteCells t).length = t.length := by simp [Lib.byteCells]

set_option maxHeartbeats 4000000 in
set_option maxRecDepth 100000 in
theorem encode_any {w : World} {A : Option Addr} {n c : Nat} {b : Str} (hs : Spell w (fun g => g < w.heap.size) A n c b) (hl : n ≤ 10000) : Calls Tryz.prog 31 #[.slice A n c] w (EncTo b w) := by
  have hbl := spell_len hs
  have hszn : size n ≤ 20000 := by unfold size; omega
  have hbn : size b.length = size n := by rw [hbl]
  have HS := Lib.hid hs
  have HBL := Lib.hid hbl
  have HBN := Lib.hid hbn
  have hsize := fun W => size_any n (by omega) W
  have HSZ := Lib.hid hsize
  have hb1 : Below w.heap.size w (w.alloc (.cells #[.pointer none, .slice none 0 0] 93)) := (Below.refl _ _).alloc (Nat.le_refl _) _
  have hgr := Tryz.Builder_Grow_fresh w.heap.size w.heap.size (size n) (w.alloc (.cells #[.pointer none, .slice none 0 0] 93)) (Nat.le_refl _) (heap_alloc_new w _) (by simp) (by omega)
  have HGR := Lib.hid hgr
  have HB1 := Lib.hid hb1
  have hsz1 : (w.alloc (.cells #[.pointer none, .slice none 0 0] 93)).heap.size = w.heap.size + 1 := by simp
  have HSZ1 := Lib.hid hsz1
  clear hs hbl hbn hsize hb1 hgr hsz1
  go_enter Tryz.func31, Tryz.ntmps31
  go_wp2_with fail
  go_step3
  go_wp2_with fail
  refine (HSZ.out _).mono ?_
  rintro e w' ⟨rfl, rfl⟩
  go_wp2_with fail
  refine HGR.out.mono ?_
  rintro e w2 ⟨rfl, hbu, hbel⟩
  have HBU := Lib.hid hbu
  have hw2 := hbel.size
  have HBE := Lib.hid (HB1.out.trans hbel)
  have hch := fun A' n' c' => chars_any A' n' c' w2
  have HCH := Lib.hid hch
  clear hbu hbel hch
  go_wp2_with fail
  refine (HCH.out _ _ _).mono ?_
  rintro e w3 ⟨rfl, rfl⟩
  have hsp2 : Spell w2 (fun g => g < w.heap.size) A n c b := HS.out.below HBE.out (fun g hg => hg)
  have hsz2 : w.heap.size + 1 ≤ w2.heap.size := by have := HSZ1.out; omega
  have HEI := Lib.hid (show EI w b (w2.heap.size + 1 + 1) w2.heap.size (w2.heap.size + 1) [] 0 0 b (((w2.alloc (.cells #[.slice A n c] 29)).alloc (.cells #[.int .u64 0] 124)).alloc (.cells #[.int .i64 0] 3)) from
    ⟨St.start b, ch_new hsp2 (fun g hg => by show g < _; have : g < w.heap.size := hg; omega), ((Lib.BuilderAtF.of HBU.out).alloc _).alloc _ |>.alloc _, ((HBE.out.alloc (by omega) _).alloc (by simp; omega) _).alloc (by simp; omega) _, by omega, by omega, by omega⟩)
  clear hsp2 hw2 HBU HBE
  generalize ((w2.alloc (.cells #[.slice A n c] 29)).alloc (.cells #[.int .u64 0] 124)).alloc (.cells #[.int .i64 0] 3) = w3 at *
  obtain ⟨bh, hbh⟩ : ∃ bh, bh = w2.heap.size + 1 + 1 := ⟨_, rfl⟩
  obtain ⟨bb, hbb⟩ : ∃ bb, bb = w2.heap.size := ⟨_, rfl⟩
  obtain ⟨bx, hbx⟩ : ∃ bx, bx = w2.heap.size + 1 := ⟨_, rfl⟩
  rw [← hbh, ← hbx, ← hbb] at HEI
  rw [← hbh, ← hbx, ← hbb]
  clear hbh hbb hbx hsz2
  go_wp2_with fail
  go_step3
  go_wp2_with fail
  go_loopg [5] (size n) (fun gh s5 wx => ∃ (t : Str) (h r : Nat) (l : Str), gh + t.length = size n ∧ Hid (EI w b bh bb bx t h r l wx)) 
  case atStart => exact ⟨[], 0, 0, b, rfl, HEI⟩
  case round =>
    clear HEI
    obtain ⟨t, h, r, l, hgh, HE⟩ := hrel
    have hlb := HE.out.st.le
    have htl := HE.out.st.len
    rw [HBL.out] at hlb
    rw [HBN.out] at htl
    have hcall := chars1_any HE.out.ch HE.out.st.held HE.out.st.small HE.out.ok (by omega)
    unfold ChTo at hcall
    cases hn : nxt h r l with
    | some x =>
      obtain ⟨cc, h', r', l'⟩ := x
      obtain ⟨hc64, hst', hroom⟩ := HE.out.st.next hn
      rw [HBN.out] at hroom
      rw [hn] at hcall
      have HCALL := Lib.hid hcall
      have HST := Lib.hid hst'
      clear hcall hst' hn
      go_wp2_with fail
      refine HCALL.out.mono ?_
      rintro e w4 ⟨ht, rfl, hch⟩
      obtain ⟨hbu4, hbe4⟩ := HE.out.turned ht
      have hwb := Tryz.Builder_WriteByte_k w.heap.size w.heap.size (Lib.byteCells t) ((lt cc).toNat : Int) w4 (.inr hbu4) (by rw [byteCells_len]; omega) hbe4.size
      have HWB := Lib.hid hwb
      have HCH4 := Lib.hid hch
      have HBE4 := Lib.hid hbe4
      clear hwb hch hbe4 hbu4 ht
      go_wp2_with fail
      refine HWB.out.mono ?_
      rintro e w5 ⟨rfl, hbu5, hbel5, hok5⟩
      rw [byteCells_snoc] at hbu5
      have hei : EI w b bh bb bx (t ++ [lt cc]) h' r' l' w5 :=
        ⟨HST.out, ch_others HCH4.out hok5 (by have := HE.out.r1; omega) (by have := HE.out.r2; omega) (by have := HE.out.r3; omega) (fun g hg => hbel5.block g hg), hbu5, HBE4.out.trans hbel5, HE.out.r1, HE.out.r2, HE.out.r3⟩
      have HEI := Lib.hid hei
      clear hbu5 hbel5 hok5 hei
      go_wp2_with fail
      go_roundg (size n - (t.length + 1))
      case measure => omega
      case rel => exact ⟨t ++ [lt cc], h', r', l', by rw [List.length_append]; show _ + (t.length + 1) = _; omega, HEI⟩
    | none =>
      rw [hn] at hcall
      obtain ⟨rfl, rfl⟩ : h = 0 ∧ l = [] := by
        rcases HE.out.st.held with rfl | rfl | rfl | rfl <;> cases l <;> simp [nxt] at hn <;> exact ⟨rfl, rfl⟩
      have HCALL := Lib.hid hcall
      clear hcall hn
      go_wp2_with fail
      refine HCALL.out.mono ?_
      rintro e w4 ⟨ht, rfl, hch⟩
      obtain ⟨hbu4, hbe4⟩ := HE.out.turned ht
      have hlen := Tryz.Builder_Len_f w.heap.size w.heap.size (Lib.byteCells t) w4 (.inr hbu4)
      rw [byteCells_len] at hlen
      have HLEN := Lib.hid hlen
      have HBU4 := Lib.hid hbu4
      have HCH4 := Lib.hid hch
      have HBE4 := Lib.hid hbe4
      clear hlen hch hbe4 hbu4 ht
      by_cases h4 : t.length % 4 = 0
      · have hm : ((t.length : Int) % 4 == 0) = true := by
          have : (t.length : Int) % 4 = 0 := by omega
          simp [this]
        have HOV := Lib.hid (HE.out.st.over h4)
        clear h4
        go_wp2_with fail
        refine HLEN.out.mono ?_
        rintro e w5 ⟨rfl, rfl⟩
        have hstr := Tryz.Builder_String_any_f w.heap.size w.heap.size t w5 (.inr HBU4.out) HBE4.out.size
        have HSTR := Lib.hid hstr
        clear hstr
        go_wp2_with fail
        refine HSTR.out.mono ?_
        rintro e w6 ⟨rfl, _, hb6⟩
        have HB6 := Lib.hid (HBE4.out.trans hb6)
        clear hb6
        go_wp2_with fail
        try rw [Exit.noGoto_ret]
        go_ret
        exact ⟨by rw [← HOV.out]; rfl, HB6.out⟩
      · have hm : ((t.length : Int) % 4 == 0) = false := by
          have : (t.length : Int) % 4 ≠ 0 := by omega
          simpa using this
        obtain ⟨hst', hroom⟩ := HE.out.st.pad h4
        rw [HBN.out] at hroom
        have HST := Lib.hid hst'
        clear h4 hst'
        go_wp2_with fail
        refine HLEN.out.mono ?_
        rintro e w5 ⟨rfl, rfl⟩
        have hws := Tryz.Builder_WriteString_k w.heap.size w.heap.size (Lib.byteCells t) ⟨#[61]⟩ w5 (.inr HBU4.out) (by rw [byteCells_len]; show _ + 1 ≤ _; omega) HBE4.out.size
        have HWS := Lib.hid hws
        clear hws
        go_wp2_with fail
        refine HWS.out.mono ?_
        rintro e w6 ⟨rfl, hbu6, hbel6, hok6⟩
        have hbu7 : Lib.BuilderAtF 93 5 w.heap.size w.heap.size (.pointer (some ⟨w.heap.size, 0, none⟩)) (Lib.byteCells (t ++ [61])) w6 := by
          rw [← byteCells_snoc]; exact hbu6
        have hc0 := HCH4.out
        have hr0 := HE.out.st.zero
        subst hr0
        have hei : EI w b bh bb bx (t ++ [61]) 0 0 [] w6 :=
          ⟨HST.out, ch_others hc0 hok6 (by have := HE.out.r1; omega) (by have := HE.out.r2; omega) (by have := HE.out.r3; omega) (fun g hg => hbel6.block g hg), hbu7, HBE4.out.trans hbel6, HE.out.r1, HE.out.r2, HE.out.r3⟩
        have HEI := Lib.hid hei
        clear hbu6 hbu7 hbel6 hok6 hei hc0
        go_wp2_with fail
        go_roundg (size n - (t.length + 1))
        case measure => omega
        case rel => exact ⟨t ++ [61], 0, 0, [], by rw [List.length_append]; show _ + (t.length + 1) = _; omega, HEI⟩
end Go.Proofs.YtghdaengkgiekaaGreatDoor.sx
