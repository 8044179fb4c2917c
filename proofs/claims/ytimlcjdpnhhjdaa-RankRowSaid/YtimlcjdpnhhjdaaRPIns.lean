/-
  Given for the seat's laws: the contract of the look whether a short row is sorted. No condition but those of the theorems.
-/
import Derived.Test.YtimlcjdpnhhjdaaRSort0
import Derived.BigRegion
namespace Go.Proofs.Ytimlcjdpnhhjdaa.rk
open Go.RowKit mem sp
open Go.Sort (grow swp PermIn SortedIn)
set_option linter.unusedVariables false

theorem sorted_of {S : Nat → Sc} {d : Array Nat} {a b : Nat} (h : ∀ k, a < k → k < b → before S d[k]! d[k - 1]! = false) : SortedIn (before S) a b d := by
  intro i j hi hij hj
  have : ∀ m, before S d[i + m + 1]! d[i]! = false ∨ ¬ i + m + 1 < b := fun m => by
    induction m with
    | zero =>
      by_cases hb : i + 1 < b
      · exact .inl (by have := h (i + 1) (by omega) hb; simpa using this)
      · exact .inr (by omega)
    | succ m ih =>
      by_cases hb : i + (m + 1) + 1 < b
      · left
        have h1 := h (i + (m + 1) + 1) (by omega) hb
        rcases ih with ih | ih
        · exact (swo S).ntrans _ _ _ (by simpa [Nat.add_assoc] using h1) (by simpa [Nat.add_assoc] using ih)
        · omega
      · exact .inr hb
  obtain ⟨m, rfl⟩ : ∃ m, j = i + m + 1 := ⟨j - i - 1, by omega⟩
  rcases this m with h1 | h1
  · exact h1
  · omega

def PITo (w0 : World) (g sb : Nat) (S : Nat → Sc) (n : Nat) (d : Array Nat) (a b : Nat) (e : Ending) (w' : World) : Prop :=
  ∃ r : Bool, e = .returned (.bool r) ∧ (r = true → SortedIn (before S) a b d) ∧ SS w0 g sb S n d w'

set_option maxHeartbeats 4000000 in
set_option maxRecDepth 100000 in
theorem pins_any {w0 W : World} {g sb n N a b : Nat} {S : Nat → Sc} {d : Array Nat} (hs : SS w0 g sb S n d W) (hN : d.size = N) (hab : a + 8 ≤ b) (hab2 : b < a + 50) (hb : b ≤ N) (hn : n ≤ 1000) (hN2 : N ≤ 1000) :
    Calls Try.prog 46 #[.slice (some ⟨g, 0, none⟩) N N, .int .i64 (a : Int), .int .i64 (b : Int), fv sb n] W (PITo w0 g sb S n d a b) := by
  have hmix : Try.prog.follows .mixedOrders = true := by kernel_rfl
  have H0 := Bx.mk hs
  have l2 : (b : Int) - (a : Int) < 50 := by omega
  clear hs
  go_enter Try.func46, Try.ntmps46
  go_wp2
  refine wp_loop_rounds 1 ?_
  rw [rounds_succ]
  go_wp2
  go_loopw [9] (fun s9 wr => ∃ i : Nat, s9 = .int .i64 (i : Int) ∧ a < i ∧ i ≤ b ∧ Bx (∀ k, a < k → k < i → before S d[k]! d[k - 1]! = false) ∧ Bx (SS w0 g sb S n d wr)) (fun s9 _ => b - (intOf s9).toNat)
  case atStart => exact ⟨a + 1, by go_num, by omega, by omega, ⟨fun k h1 h2 => by omega⟩, H0⟩
  case round =>
    clear H0
    obtain ⟨i, rfl, hai, hib, HA, HF⟩ := hrel
    by_cases hlt : i < b
    · obtain ⟨ip, rfl⟩ : ∃ ip, i = ip + 1 := ⟨i - 1, by omega⟩
      have hltz : (ip : Int) + 1 < (b : Int) := by omega
      have hltd : decide ((ip : Int) + 1 < (b : Int)) = true := decide_eq_true (by omega)
      have hr1 : IntKind.i64.wrap ((ip : Int) + 1) = (ip : Int) + 1 := by rw [IntKind.wrap_i64]; omega
      have hr2 : IntKind.i64.wrap (ip : Int) = (ip : Int) := by rw [IntKind.wrap_i64]; omega
      cases hlv : before S d[ip + 1]! d[ip]! with
      | true =>
        obtain ⟨i1, hi1⟩ : ∃ q, q = ip + 1 := ⟨_, rfl⟩
        obtain ⟨j1, hj1⟩ : ∃ q, q = ip := ⟨_, rfl⟩
        have ea1 : ((ip : Int) + 1 : Int).toNat = i1 := by omega
        have pa1 : (0 : Int) ≤ (ip : Int) + 1 := by omega
        have ba1 : ((ip : Int) + 1 : Int) < (N : Int) := by omega
        have ec1 : ((ip : Int) : Int).toNat = j1 := by omega
        have pc1 : (0 : Int) ≤ (ip : Int) := by omega
        have bc1 : ((ip : Int) : Int) < (N : Int) := by omega
        have la1 := HF.out.cl (i := ip + 1) (by omega)
        have lb1 := HF.out.cl (i := ip) (by omega)
        have hx1 := HF.out.lt (ip + 1) (by omega)
        have hy1 := HF.out.lt (ip) (by omega)
        have hv1 : decide (cfv S d[ip + 1]! d[ip]! < 0) = true := (cfv_lt S _ _).trans hlv
        rw [← hi1] at la1 hx1 hv1
        rw [← hj1] at lb1 hy1 hv1
        obtain ⟨x1, hxx1⟩ : ∃ q, q = d[i1]! := ⟨_, rfl⟩
        obtain ⟨y1, hyy1⟩ : ∃ q, q = d[j1]! := ⟨_, rfl⟩
        rw [← hxx1] at la1 hx1 hv1
        rw [← hyy1] at lb1 hy1 hv1
        have hc1 := HF.out.cmp hn hx1 hy1
        generalize cfv S x1 y1 = v1 at hc1 hv1
        clear hx1 hy1 hxx1 hyy1 hi1 hj1 hlv
        go_wp2_with fail
        go_quiet_grown (first | (go_at_call 27; exact hc1 _ _))
        have HS1 := Bx.mk (HF.out.grew (grew_of _ nq osq))
        generalize grow (World.drewN wr nq) osq = W1 at *
        clear la1 lb1 hc1 ea1 pa1 ba1 ec1 pc1 bc1
        have hne : ((ip : Int) + 1 == (b : Int)) = false := beq_eq_false_iff_ne.2 (by omega)
        clear HF HA
        go_wp2
        go_ret
        exact ⟨false, rfl, fun e => (by cases e), HS1.out⟩
      | false =>
        have HA2 : Bx (∀ k, a < k → k < ip + 1 + 1 → before S d[k]! d[k - 1]! = false) := ⟨fun k h1 h2 => by
          by_cases e : k = ip + 1
          · subst e; exact hlv
          · exact HA.out k h1 (by omega)⟩
        obtain ⟨i2, hi2⟩ : ∃ q, q = ip + 1 := ⟨_, rfl⟩
        obtain ⟨j2, hj2⟩ : ∃ q, q = ip := ⟨_, rfl⟩
        have ea2 : ((ip : Int) + 1 : Int).toNat = i2 := by omega
        have pa2 : (0 : Int) ≤ (ip : Int) + 1 := by omega
        have ba2 : ((ip : Int) + 1 : Int) < (N : Int) := by omega
        have ec2 : ((ip : Int) : Int).toNat = j2 := by omega
        have pc2 : (0 : Int) ≤ (ip : Int) := by omega
        have bc2 : ((ip : Int) : Int) < (N : Int) := by omega
        have la2 := HF.out.cl (i := ip + 1) (by omega)
        have lb2 := HF.out.cl (i := ip) (by omega)
        have hx2 := HF.out.lt (ip + 1) (by omega)
        have hy2 := HF.out.lt (ip) (by omega)
        have hv2 : decide (cfv S d[ip + 1]! d[ip]! < 0) = false := (cfv_lt S _ _).trans hlv
        rw [← hi2] at la2 hx2 hv2
        rw [← hj2] at lb2 hy2 hv2
        obtain ⟨x2, hxx2⟩ : ∃ q, q = d[i2]! := ⟨_, rfl⟩
        obtain ⟨y2, hyy2⟩ : ∃ q, q = d[j2]! := ⟨_, rfl⟩
        rw [← hxx2] at la2 hx2 hv2
        rw [← hyy2] at lb2 hy2 hv2
        have hc2 := HF.out.cmp hn hx2 hy2
        generalize cfv S x2 y2 = v2 at hc2 hv2
        clear hx2 hy2 hxx2 hyy2 hi2 hj2 hlv
        go_wp2_with fail
        go_quiet_grown (first | (go_at_call 27; exact hc2 _ _))
        have HS2 := Bx.mk (HF.out.grew (grew_of _ nq osq))
        generalize grow (World.drewN wr nq) osq = W2 at *
        clear la2 lb2 hc2 ea2 pa2 ba2 ec2 pc2 bc2
        clear HF HA
        go_wp2
        go_roundw
        case rel => exact ⟨ip + 1 + 1, by go_num, by omega, by omega, HA2, HS2⟩
        case measure => (simp [intOf]) <;> omega
    · obtain rfl : i = b := by omega
      have HSO := Bx.mk (sorted_of HA.out)
      have hltd : decide ((i : Int) < (i : Int)) = false := decide_eq_false (by omega)
      clear HA
      go_wp2_with fail
      go_region
      have HS3 := Bx.mk HF.out.drew
      generalize wr.drew = W3 at *
      clear HF
      go_wp2
      go_ret
      exact ⟨true, rfl, fun _ => HSO.out, HS3.out⟩
end Go.Proofs.Ytimlcjdpnhhjdaa.rk
