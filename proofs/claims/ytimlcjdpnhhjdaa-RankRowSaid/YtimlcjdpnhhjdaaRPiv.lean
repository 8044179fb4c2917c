/-
  Given for the seat's laws: the contracts of the choice of a pivot. No condition but those of the theorems.
-/
import Derived.Test.YtimlcjdpnhhjdaaRSort0
import Derived.BigRegion
namespace Go.Proofs.Ytimlcjdpnhhjdaa.rk
open Go.RowKit mem sp
open Go.Sort (grow swp PermIn SortedIn)
set_option linter.unusedVariables false

/-- .. and a counter stands in a block of its own -/
structure CS (w0 : World) (g sb : Nat) (S : Nat → Sc) (n : Nat) (d : Array Nat) (h k : Nat) (W : World) : Prop where
  ss : SS w0 g sb S n d W
  cnt : Lies W h 3 #[.int .i64 (k : Int)]
  ge : w0.heap.size ≤ h
  ne : h ≠ g
  ne2 : h ≠ sb
section
variable {w0 W W' : World} {g sb n h k : Nat} {S : Nat → Sc} {d : Array Nat}
theorem CS.grew (c : CS w0 g sb S n d h k W) (hg : Grew W W') : CS w0 g sb S n d h k W' := ⟨c.ss.grew hg, c.cnt.below hg.below c.cnt.lt, c.ge, c.ne, c.ne2⟩
theorem CS.set (c : CS w0 g sb S n d h k W) (k' : Nat) : CS w0 g sb S n d h k' (W.setCell ⟨h, 0, none⟩ (.int .i64 (k' : Int))) :=
  ⟨⟨c.ss.row.far (p := ⟨h, 0, none⟩) (fun e => c.ne e.symm) _, c.ss.keep.setCell (p := ⟨h, 0, none⟩) (.inl c.ge) _, c.ss.scs.keep (Below.heap_setCell _ _ _ _ (fun e => c.ne2 e.symm)), c.ss.lt, c.ss.ne⟩, c.cnt.set 0 _, c.ge, c.ne, c.ne2⟩
theorem CS.start (s : SS w0 g sb S n d W) (hsb : sb < W.heap.size) : CS w0 g sb S n d W.heap.size 0 (W.alloc (.cells #[.int .i64 0] 3)) :=
  ⟨s.grew ((Grew.refl W).alloc _), Lies.new W 3 #[.int .i64 0], s.keep.size, fun e => by have := s.row.lt; omega, fun e => by omega⟩
end

def O2To (w0 : World) (g sb : Nat) (S : Nat → Sc) (n : Nat) (d : Array Nat) (h k a b : Nat) (e : Ending) (w' : World) : Prop :=
  ∃ x y k' : Nat, e = .returned (.tuple #[.int .i64 (x : Int), .int .i64 (y : Int)]) ∧ (x = a ∧ y = b ∨ x = b ∧ y = a) ∧ k' ≤ k + 1 ∧ CS w0 g sb S n d h k' w'

set_option maxHeartbeats 4000000 in
set_option maxRecDepth 100000 in
theorem ord2_any {w0 W : World} {g sb n N a b h k : Nat} {S : Nat → Sc} {d : Array Nat} (hs : CS w0 g sb S n d h k W) (hN : d.size = N) (ha : a < N) (hb : b < N) (hk : k ≤ 1000) (hn : n ≤ 1000) (hN2 : N ≤ 1000) :
    Calls Try.prog 63 #[.slice (some ⟨g, 0, none⟩) N N, .int .i64 (a : Int), .int .i64 (b : Int), .pointer (some ⟨h, 0, none⟩), fv sb n] W (O2To w0 g sb S n d h k a b) := by
  have hmix : Try.prog.follows .mixedOrders = true := by kernel_rfl
  have H0 := Bx.mk hs
  have HF := Bx.mk hs.ss
  clear hs
  cases hlv : before S d[b]! d[a]! with
  | true =>
    go_enter Try.func63, Try.ntmps63
    obtain ⟨i1, hi1⟩ : ∃ q, q = b := ⟨_, rfl⟩
    obtain ⟨j1, hj1⟩ : ∃ q, q = a := ⟨_, rfl⟩
    have ea1 : ((b : Int) : Int).toNat = i1 := by omega
    have pa1 : (0 : Int) ≤ (b : Int) := by omega
    have ba1 : ((b : Int) : Int) < (N : Int) := by omega
    have ec1 : ((a : Int) : Int).toNat = j1 := by omega
    have pc1 : (0 : Int) ≤ (a : Int) := by omega
    have bc1 : ((a : Int) : Int) < (N : Int) := by omega
    have la1 := HF.out.cl (i := b) (by omega)
    have lb1 := HF.out.cl (i := a) (by omega)
    have hx1 := HF.out.lt (b) (by omega)
    have hy1 := HF.out.lt (a) (by omega)
    have hv1 : decide (cfv S d[b]! d[a]! < 0) = true := (cfv_lt S _ _).trans hlv
    rw [← hi1] at la1 hx1 hv1
    rw [← hj1] at lb1 hy1 hv1
    obtain ⟨x1, hxx1⟩ : ∃ q, q = d[i1]! := ⟨_, rfl⟩
    obtain ⟨y1, hyy1⟩ : ∃ q, q = d[j1]! := ⟨_, rfl⟩
    rw [← hxx1] at la1 hx1 hv1
    rw [← hyy1] at lb1 hy1 hv1
    have hc1 := HF.out.cmp hn hx1 hy1
    generalize cfv S x1 y1 = v1 at hc1 hv1
    clear hx1 hy1 hxx1 hyy1 hi1 hj1 hlv
    go_wp2_with fail
    go_quiet_grown (first | (go_at_call 27; exact hc1 _ _))
    have HC2 := Bx.mk (H0.out.grew (grew_of _ nq osq))
    have HS1 := Bx.mk (HF.out.grew (grew_of _ nq osq))
    generalize grow (World.drewN W nq) osq = W1 at *
    clear la1 lb1 hc1 ea1 pa1 ba1 ec1 pc1 bc1
    have HC := Bx.mk HC2.out
    have c0 := HC.out.cnt.cell 0
    have f0 := HC.out.cnt.frozen 0
    simp at c0
    have H2 := Bx.mk (HC.out.set (k + 1))
    clear HS1 HC2 HC H0 HF
    go_wp2
    go_ret2
    exact ⟨b, a, k + 1, rfl, .inr ⟨rfl, rfl⟩, Nat.le_refl _, by simpa using H2.out⟩
  | false =>
    go_enter Try.func63, Try.ntmps63
    obtain ⟨i1, hi1⟩ : ∃ q, q = b := ⟨_, rfl⟩
    obtain ⟨j1, hj1⟩ : ∃ q, q = a := ⟨_, rfl⟩
    have ea1 : ((b : Int) : Int).toNat = i1 := by omega
    have pa1 : (0 : Int) ≤ (b : Int) := by omega
    have ba1 : ((b : Int) : Int) < (N : Int) := by omega
    have ec1 : ((a : Int) : Int).toNat = j1 := by omega
    have pc1 : (0 : Int) ≤ (a : Int) := by omega
    have bc1 : ((a : Int) : Int) < (N : Int) := by omega
    have la1 := HF.out.cl (i := b) (by omega)
    have lb1 := HF.out.cl (i := a) (by omega)
    have hx1 := HF.out.lt (b) (by omega)
    have hy1 := HF.out.lt (a) (by omega)
    have hv1 : decide (cfv S d[b]! d[a]! < 0) = false := (cfv_lt S _ _).trans hlv
    rw [← hi1] at la1 hx1 hv1
    rw [← hj1] at lb1 hy1 hv1
    obtain ⟨x1, hxx1⟩ : ∃ q, q = d[i1]! := ⟨_, rfl⟩
    obtain ⟨y1, hyy1⟩ : ∃ q, q = d[j1]! := ⟨_, rfl⟩
    rw [← hxx1] at la1 hx1 hv1
    rw [← hyy1] at lb1 hy1 hv1
    have hc1 := HF.out.cmp hn hx1 hy1
    generalize cfv S x1 y1 = v1 at hc1 hv1
    clear hx1 hy1 hxx1 hyy1 hi1 hj1 hlv
    go_wp2_with fail
    go_quiet_grown (first | (go_at_call 27; exact hc1 _ _))
    have HC2 := Bx.mk (H0.out.grew (grew_of _ nq osq))
    have HS1 := Bx.mk (HF.out.grew (grew_of _ nq osq))
    generalize grow (World.drewN W nq) osq = W1 at *
    clear la1 lb1 hc1 ea1 pa1 ba1 ec1 pc1 bc1
    have HC := Bx.mk HC2.out
    clear HS1 HC2 H0 HF
    go_wp2
    go_ret2
    exact ⟨a, b, k, rfl, .inl ⟨rfl, rfl⟩, by omega, HC.out⟩

def MedTo (w0 : World) (g sb : Nat) (S : Nat → Sc) (n : Nat) (d : Array Nat) (h k a b c : Nat) (e : Ending) (w' : World) : Prop :=
  ∃ m k' : Nat, e = .returned (.int .i64 (m : Int)) ∧ (m = a ∨ m = b ∨ m = c) ∧ k' ≤ k + 3 ∧ CS w0 g sb S n d h k' w'

set_option maxHeartbeats 4000000 in
set_option maxRecDepth 100000 in
theorem med_any {w0 W : World} {g sb n N a b c h k : Nat} {S : Nat → Sc} {d : Array Nat} (hs : CS w0 g sb S n d h k W) (hN : d.size = N) (ha : a < N) (hb : b < N) (hc : c < N) (hk : k ≤ 100) (hn : n ≤ 1000) (hN2 : N ≤ 1000) :
    Calls Try.prog 61 #[.slice (some ⟨g, 0, none⟩) N N, .int .i64 (a : Int), .int .i64 (b : Int), .int .i64 (c : Int), .pointer (some ⟨h, 0, none⟩), fv sb n] W (MedTo w0 g sb S n d h k a b c) := by
  have H1 := Bx.mk (ord2_any hs hN ha hb (by omega) hn hN2)
  have HO : Bx (∀ (W : World) (a b k : Nat), CS w0 g sb S n d h k W → a < N → b < N → k ≤ 1000 → Calls Try.prog 63 #[.slice (some ⟨g, 0, none⟩) N N, .int .i64 (a : Int), .int .i64 (b : Int), .pointer (some ⟨h, 0, none⟩), fv sb n] W (O2To w0 g sb S n d h k a b)) := ⟨fun W a b k hs ha hb hk => ord2_any hs hN ha hb hk hn hN2⟩
  clear hs
  go_enter Try.func61, Try.ntmps61
  go_wp2_with fail
  refine H1.out.mono ?_
  rintro e w1 ⟨x, y, k1, rfl, hxy, hk1, hc1⟩
  have H2 := Bx.mk (HO.out w1 y c k1 hc1 (by omega) hc (by omega))
  clear hc1 H1
  go_wp2_with fail
  refine H2.out.mono ?_
  rintro e w2 ⟨y2, z2, k2, rfl, hyz, hk2, hc2⟩
  have H3 := Bx.mk (HO.out w2 x y2 k2 hc2 (by omega) (by omega) (by omega))
  clear hc2 H2
  go_wp2_with fail
  refine H3.out.mono ?_
  rintro e w3 ⟨x3, y3, k3, rfl, hxy3, hk3, hc3⟩
  have H4 := Bx.mk hc3
  clear hc3 H3 HO
  go_wp2
  go_ret
  exact ⟨y3, k3, rfl, by omega, by omega, H4.out⟩

def ChsTo (w0 : World) (g sb : Nat) (S : Nat → Sc) (n : Nat) (d : Array Nat) (a b : Nat) (e : Ending) (w' : World) : Prop :=
  ∃ p q : Nat, e = .returned (.tuple #[.int .i64 (p : Int), .int .i64 (q : Int)]) ∧ a ≤ p ∧ p < b ∧ q ≤ 1 ∧ SS w0 g sb S n d w'

set_option maxHeartbeats 4000000 in
set_option maxRecDepth 100000 in
theorem chs_any {w0 W : World} {g sb n N a b : Nat} {S : Nat → Sc} {d : Array Nat} (hs : SS w0 g sb S n d W) (hsb : sb < W.heap.size) (hN : d.size = N) (hab : a + 8 ≤ b) (hab2 : b < a + 50) (hb : b ≤ N) (hn : n ≤ 1000) (hN2 : N ≤ 1000) :
    Calls Try.prog 44 #[.slice (some ⟨g, 0, none⟩) N N, .int .i64 (a : Int), .int .i64 (b : Int), fv sb n] W (ChsTo w0 g sb S n d a b) := by
  obtain ⟨q, hq⟩ : ∃ q, q = (b - a) / 4 := ⟨_, rfl⟩
  have hqz : ((b : Int) - (a : Int)) / 4 = (q : Int) := by omega
  have hM := med_any (a := a + q) (b := a + q * 2) (c := a + q * 3) (CS.start hs hsb) hN (by omega) (by omega) (by omega) (by omega) hn hN2
  have HM := Bx.mk hM
  have l1 : (8 : Int) ≤ (b : Int) - (a : Int) := by omega
  have l2 : (b : Int) - (a : Int) < 50 := by omega
  have l3 : 0 ≤ (b : Int) - (a : Int) := by omega
  rw [show ((a + q : Nat) : Int) = (a : Int) + (q : Int) by omega, show ((a + q * 2 : Nat) : Int) = (a : Int) + (q : Int) * 2 by omega, show ((a + q * 3 : Nat) : Int) = (a : Int) + (q : Int) * 3 by omega] at HM
  have HQ := Bx.mk hq
  have hq4 : q ≤ 12 := by omega
  have haz : a ≤ 1000 := by omega
  clear hs hM hq
  go_enter Try.func44, Try.ntmps44
  go_wp2_with fail
  refine HM.out.mono ?_
  rintro e w1 ⟨m, k, rfl, hm, hk, hc⟩
  have c0 := hc.cnt.cell 0
  simp at c0
  have H2 := Bx.mk hc.ss
  have hab3 : a ≤ m ∧ m < b := by have := HQ.out; omega
  clear hc hm HM HQ hqz
  by_cases h0 : k = 0
  · subst h0
    go_wp2
    go_ret2
    exact ⟨m, 1, rfl, hab3.1, hab3.2, by omega, H2.out⟩
  · have e0 : ((k : Int) == 0) = false := beq_eq_false_iff_ne.2 (by omega)
    have e12 : ((k : Int) == 12) = false := beq_eq_false_iff_ne.2 (by omega)
    clear h0
    go_wp2
    go_ret2
    exact ⟨m, 0, rfl, hab3.1, hab3.2, by omega, H2.out⟩
end Go.Proofs.Ytimlcjdpnhhjdaa.rk
