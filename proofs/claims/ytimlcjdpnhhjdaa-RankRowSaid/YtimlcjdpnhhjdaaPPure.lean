/-
  Given for the seat's laws: SipHash-2-4 over plain numbers of 64 bits, and over the bytes of which its words are made. No program, no memory.
-/
import Derived.Laws.BitsAllLaws
import Derived.WalkKit
namespace Go.Proofs.Ytimlcjdpnhhjdaa.sp
open Go
set_option linter.unusedVariables false
set_option linter.unusedSimpArgs false

abbrev Str := List UInt8
abbrev W64 := BitVec 64
/-- a number of 64 bits as the program's integer -/
def num (x : W64) : Int := (x.toNat : Int)
theorem num_range (x : W64) : 0 ≤ num x ∧ num x < 18446744073709551616 := by
  unfold num
  have := x.isLt
  omega
theorem num_inj {x y : W64} (h : num x = num y) : x = y := BitVec.eq_of_toNat_eq (by unfold num at h; omega)
def mk (n : Nat) : W64 := BitVec.ofNat 64 n
theorem mk_nat {n : Nat} (h : n < 18446744073709551616) : (mk n).toNat = n := by
  unfold mk
  rw [BitVec.toNat_ofNat]
  omega
theorem num_mk {n : Nat} (h : n < 18446744073709551616) : num (mk n) = (n : Int) := by
  unfold num
  rw [mk_nat h]
theorem num_of {z : Int} (h0 : 0 ≤ z) (h1 : z < 18446744073709551616) : ∃ x, z = num x :=
  ⟨mk z.toNat, by rw [num_mk (by omega)]; omega⟩

def ad (x y : W64) : W64 := x + y
def xr (x y : W64) : W64 := x ^^^ y
def rl (k : Nat) (x : W64) : W64 := x.rotateLeft k
theorem wrap_ad (x y : W64) : IntKind.u64.wrap (num x + num y) = num (ad x y) := by
  unfold num ad
  rw [IntKind.wrap_u64, BitVec.toNat_add]
  omega
theorem bits_xr (x y : W64) : bits .xor .u64 (num x) (num y) = num (xr x y) := by
  unfold num xr
  rw [u64_xor_nat _ _ x.isLt y.isLt, BitVec.toNat_xor]
theorem xr_comm (x y : W64) : xr x y = xr y x := BitVec.xor_comm x y
theorem bits_or_rl (x : W64) (k : Nat) (h0 : 0 < k) (hk : k < 64) : bits .or .u64 (IntKind.u64.wrap (num x * 2 ^ k)) (num x / 2 ^ (64 - k)) = num (rl k x) := by
  have e1 : IntKind.u64.wrap (num x * 2 ^ k) = ((x.toNat * 2 ^ k % 18446744073709551616 : Nat) : Int) := by
    rw [IntKind.wrap_u64]
    unfold num
    have : ((x.toNat : Int) * 2 ^ k) = ((x.toNat * 2 ^ k : Nat) : Int) := by simp
    rw [this]
    omega
  have e2 : num x / 2 ^ (64 - k) = ((x.toNat / 2 ^ (64 - k) : Nat) : Int) := by
    unfold num
    simp
  have h2 : x.toNat / 2 ^ (64 - k) < 18446744073709551616 := Nat.lt_of_le_of_lt (Nat.div_le_self _ _) x.isLt
  rw [e1, e2, u64_or_nat _ _ (by omega) h2]
  unfold num rl
  rw [BitVec.toNat_rotateLeft, Nat.mod_eq_of_lt hk, Nat.shiftLeft_eq, Nat.shiftRight_eq_div_pow]
theorem rl_one (x : W64) : IntKind.u64.wrap (IntKind.u64.wrap (2 * num x) + num x / 9223372036854775808) = num (rl 1 x) := by
  have h := bits_or_rl x 1 (by omega) (by omega)
  have hb := x.isLt
  have e1 : IntKind.u64.wrap (num x * 2 ^ 1) = ((x.toNat * 2 % 18446744073709551616 : Nat) : Int) := by
    rw [IntKind.wrap_u64]
    unfold num
    omega
  have e2 : num x / 2 ^ (64 - 1) = ((x.toNat / 9223372036854775808 : Nat) : Int) := by
    unfold num
    omega
  rw [e1, e2, u64_or_nat _ _ (by omega) (by omega), nat_join 1 _ _ (by omega) (by omega)] at h
  rw [← h, IntKind.wrap_u64, IntKind.wrap_u64]
  unfold num
  omega
theorem rl_succ (x : W64) (k : Nat) (hk : k + 1 < 64) : rl 1 (rl k x) = rl (k + 1) x := by
  unfold rl
  apply BitVec.eq_of_getLsbD_eq
  intro i hi
  rw [BitVec.getLsbD_rotateLeft, BitVec.getLsbD_rotateLeft, BitVec.getLsbD_rotateLeft, BitVec.getLsbD_rotateLeft, Nat.mod_eq_of_lt (show 1 < 64 by omega), Nat.mod_eq_of_lt (show k < 64 by omega), Nat.mod_eq_of_lt hk]
  by_cases h1 : i < 1
  · have h2 : ¬ 64 - 1 + i < k := by omega
    have h3 : i < k + 1 := by omega
    have h4 : 64 - 1 + i < 64 := by omega
    simp only [h1, h2, h3, h4, decide_true, decide_false, cond_true, cond_false, Bool.true_and]
    congr 1
    omega
  · by_cases h2 : i - 1 < k
    · have h3 : i < k + 1 := by omega
      simp only [h1, h2, h3, hi, decide_true, decide_false, cond_true, cond_false, Bool.true_and]
      congr 1
      omega
    · have h3 : ¬ i < k + 1 := by omega
      have h4 : i - 1 < 64 := by omega
      simp only [h1, h2, h3, h4, hi, decide_true, decide_false, cond_true, cond_false, Bool.true_and]
      congr 1
      omega
theorem rl_zero (x : W64) : rl 0 x = x := by
  unfold rl
  apply BitVec.eq_of_getLsbD_eq
  intro i hi
  rw [BitVec.getLsbD_rotateLeft]
  simp [hi]

/-! ### the state -/
structure St where
  a : W64
  b : W64
  c : W64
  d : W64
def rnd (s : St) : St :=
  let a1 := ad s.a s.b
  let b1 := xr (rl 13 s.b) a1
  let a2 := rl 32 a1
  let c1 := ad s.c s.d
  let d1 := xr (rl 16 s.d) c1
  let a3 := ad a2 d1
  let d2 := xr (rl 21 d1) a3
  let c2 := ad c1 b1
  let b2 := xr (rl 17 b1) c2
  ⟨a3, b2, rl 32 c2, d2⟩
def rnds : Nat → St → St
  | 0, s => s
  | n + 1, s => rnd (rnds n s)
def wd (s : St) (m : W64) : St :=
  let t := rnds 2 ⟨s.a, s.b, s.c, xr s.d m⟩
  ⟨xr t.a m, t.b, t.c, t.d⟩
def fin (s : St) : W64 :=
  let t := rnds 4 ⟨s.a, s.b, xr s.c (mk 255), s.d⟩
  xr (xr (xr t.a t.b) t.c) t.d
def init (k0 k1 : W64) : St := ⟨xr k0 (mk 8317987319222330741), xr k1 (mk 7237128888997146477), xr k0 (mk 7816392313619706465), xr k1 (mk 8387220255154660723)⟩

/-! ### the words -/
def le : Str → Nat
  | [] => 0
  | c :: l => c.toNat + 256 * le l
theorem le_lt : ∀ l : Str, le l < 256 ^ l.length
  | [] => by simp [le]
  | c :: l => by
    have h := le_lt l
    have := c.toNat_lt
    simp only [le, List.length_cons, Nat.pow_succ]
    omega
theorem le_snoc (c : UInt8) : ∀ l : Str, le (l ++ [c]) = le l + 256 ^ l.length * c.toNat
  | [] => by simp [le]
  | x :: l => by
    simp only [List.cons_append, le, le_snoc c l, List.length_cons, Nat.pow_succ]
    rw [Nat.mul_add, Nat.mul_comm (256 ^ l.length) 256, Nat.mul_assoc]
    omega
def full (b : Str) : List W64 := (List.range (b.length / 8)).map fun i => mk (le ((b.drop (8 * i)).take 8))
def part (b : Str) : Str := b.drop (8 * (b.length / 8))
def lastn (b : Str) : Nat := le (part b) + 72057594037927936 * (b.length % 256)
def ws (b : Str) : List W64 := full b ++ [mk (lastn b)]
def vst (k0 k1 : W64) (b : Str) : St := (full b).foldl wd (init k0 k1)
/-- THE HASH -/
def hsum (k0 k1 : W64) (b : Str) : W64 := fin (wd (vst k0 k1 b) (mk (lastn b)))
theorem hsum_ws (k0 k1 : W64) (b : Str) : hsum k0 k1 b = fin ((ws b).foldl wd (init k0 k1)) := by
  unfold hsum ws vst
  rw [List.foldl_append]
  rfl
theorem part_len (b : Str) : (part b).length = b.length % 8 := by
  unfold part
  rw [List.length_drop]
  omega
theorem part_nil : part [] = [] := rfl
theorem vst_nil (k0 k1 : W64) : vst k0 k1 [] = init k0 k1 := rfl
theorem le_part (b : Str) : le (part b) < 72057594037927936 := by
  have h := le_lt (part b)
  have h2 : (part b).length ≤ 7 := by rw [part_len]; omega
  exact Nat.lt_of_lt_of_le h (Nat.le_trans (Nat.pow_le_pow_right (by omega) h2) (by decide))
theorem lastn_lt (b : Str) : lastn b < 18446744073709551616 := by
  have := le_part b
  unfold lastn
  omega

theorem full_keep (b : Str) (c : UInt8) (i : Nat) (hi : i < b.length / 8) : ((b ++ [c]).drop (8 * i)).take 8 = (b.drop (8 * i)).take 8 := by
  rw [List.drop_append_of_le_length (by omega), List.take_append_of_le_length (by rw [List.length_drop]; omega)]
theorem full_snoc (b : Str) (c : UInt8) (h : (b.length + 1) % 8 ≠ 0) : full (b ++ [c]) = full b ∧ part (b ++ [c]) = part b ++ [c] := by
  have e : (b ++ [c]).length / 8 = b.length / 8 := by simp; omega
  constructor
  · unfold full
    rw [e]
    exact List.map_congr_left fun i hi => by rw [full_keep b c i (List.mem_range.1 hi)]
  · unfold part
    rw [e, List.drop_append_of_le_length (by omega)]
theorem full_turn (b : Str) (c : UInt8) (h : (b.length + 1) % 8 = 0) : full (b ++ [c]) = full b ++ [mk (le (part b ++ [c]))] ∧ part (b ++ [c]) = [] := by
  have e : (b ++ [c]).length / 8 = b.length / 8 + 1 := by simp; omega
  constructor
  · unfold full
    rw [e, List.range_succ, List.map_append]
    congr 1
    · exact List.map_congr_left fun i hi => by rw [full_keep b c i (List.mem_range.1 hi)]
    · unfold part
      simp only [List.map_cons, List.map_nil]
      rw [List.drop_append_of_le_length (by omega), List.take_of_length_le (by simp; omega)]
  · unfold part
    rw [e]
    exact List.drop_eq_nil_of_le (by simp; omega)
theorem vst_snoc (k0 k1 : W64) (b : Str) (c : UInt8) (h : (b.length + 1) % 8 ≠ 0) : vst k0 k1 (b ++ [c]) = vst k0 k1 b := by
  unfold vst
  rw [(full_snoc b c h).1]
theorem vst_turn (k0 k1 : W64) (b : Str) (c : UInt8) (h : (b.length + 1) % 8 = 0) : vst k0 k1 (b ++ [c]) = wd (vst k0 k1 b) (mk (le (part b ++ [c]))) := by
  unfold vst
  rw [(full_turn b c h).1, List.foldl_append]
  rfl

/-! ### what the program does with a byte, and at the end -/
theorem or_byte (p : Str) (c : UInt8) (h : p.length < 8) : bits .or .u64 (num (mk (le p))) (IntKind.u64.wrap ((c.toNat : Int) * 2 ^ (8 * p.length))) = num (mk (le (p ++ [c]))) := by
  have hc := c.toNat_lt
  have hl := le_lt p
  have hp : (256 : Nat) ^ p.length = 2 ^ (8 * p.length) := by rw [Nat.pow_mul]
  have hb : (256 : Nat) ^ (p.length + 1) ≤ 256 ^ 8 := Nat.pow_le_pow_right (by omega) (by omega)
  have h8 : (256 : Nat) ^ 8 = 18446744073709551616 := by decide
  have hl2 := le_lt (p ++ [c])
  rw [List.length_append, List.length_singleton] at hl2
  have h1 : le p < 18446744073709551616 := by
    have : (256 : Nat) ^ p.length ≤ 256 ^ 8 := Nat.pow_le_pow_right (by omega) (by omega)
    omega
  have hs := le_snoc c p
  have e : ((c.toNat : Int) * 2 ^ (8 * p.length)) = ((256 ^ p.length * c.toNat : Nat) : Int) := by
    rw [hp, Int.natCast_mul, Int.natCast_pow, Int.mul_comm]
    rfl
  have h2 : 256 ^ p.length * c.toNat < 18446744073709551616 := by omega
  rw [num_mk h1, num_mk (by omega), e, IntKind.wrap_u64, Int.emod_eq_of_lt (by omega) (by omega), u64_or_nat _ _ h1 h2, hs]
  rw [hp] at hl ⊢
  rw [Nat.or_comm, ← Nat.two_pow_add_eq_or_of_lt hl, Nat.add_comm]
theorem or_last (b : Str) : bits .or .u64 (num (mk (le (part b)))) (IntKind.u64.wrap (((b.length % 256 : Nat) : Int) * 72057594037927936)) = num (mk (lastn b)) := by
  have h1 := le_part b
  have h2 := lastn_lt b
  rw [num_mk (by omega), num_mk h2, IntKind.wrap_u64, Int.emod_eq_of_lt (by omega) (by omega)]
  have e : (((b.length % 256 : Nat) : Int) * 72057594037927936) = ((2 ^ 56 * (b.length % 256) : Nat) : Int) := by omega
  rw [e, u64_or_nat _ _ (by omega) (by omega), Nat.or_comm, ← Nat.two_pow_add_eq_or_of_lt (show le (part b) < 2 ^ 56 from h1)]
  unfold lastn
  omega

/-! ### the chapter's examples -/
theorem ex_none : num (hsum (mk 506097522914230528) (mk 1084818905618843912) []) = 8246050544436514353 := by decide +kernel
theorem ex_some : num (hsum (mk 506097522914230528) (mk 1084818905618843912) [0, 1, 2, 3, 4, 5, 6, 7, 8, 9, 10, 11, 12, 13, 14]) = 11613035633349379557 := by decide +kernel
end Go.Proofs.Ytimlcjdpnhhjdaa.sp
