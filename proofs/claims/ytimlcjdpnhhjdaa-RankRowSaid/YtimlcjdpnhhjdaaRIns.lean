/-
  Given for the seat's laws: the contract of the insertion sort of a row. No condition but those of the theorems.
-/
import Derived.Test.YtimlcjdpnhhjdaaRSort0
import Derived.BigRegion
namespace Go.Proofs.Ytimlcjdpnhhjdaa.rk
open Go.RowKit mem sp
open Go.Sort (grow swp PermIn SortedIn insInner insOuter insertionSort)
set_option linter.unusedVariables false

theorem insInner_succ (lt : Nat → Nat → Bool) (a j : Nat) (d : Array Nat) : insInner lt a (j + 1) d = if j + 1 > a && lt d[j + 1]! d[j]! then insInner lt a j (swp d (j + 1) j) else d := rfl
theorem insInner_end (lt : Nat → Nat → Bool) {a j : Nat} (d : Array Nat) (h : j ≤ a) : insInner lt a j d = d := by
  cases j with
  | zero => rfl
  | succ j =>
    rw [insInner_succ]
    have : decide (j + 1 > a) = false := decide_eq_false (by omega)
    rw [this]; rfl
theorem insOuter_go (lt : Nat → Nat → Bool) (a b i : Nat) (d : Array Nat) (h : i < b) : insOuter lt a b i d = insOuter lt a b (i + 1) (insInner lt a i d) := by
  rw [insOuter, if_pos h]
theorem insOuter_end (lt : Nat → Nat → Bool) (a b i : Nat) (d : Array Nat) (h : ¬ i < b) : insOuter lt a b i d = d := by
  rw [insOuter, if_neg h]

set_option maxHeartbeats 4000000 in
set_option maxRecDepth 100000 in
theorem ins_any {w0 W : World} {g sb n N a b : Nat} {S : Nat → Sc} {d : Array Nat} (hs : SS w0 g sb S n d W) (hN : d.size = N) (hab : a ≤ b) (hb : b ≤ N) (hn : n ≤ 1000) (hN2 : N ≤ 1000) :
    Calls Try.prog 41 #[.slice (some ⟨g, 0, none⟩) N N, .int .i64 (a : Int), .int .i64 (b : Int), fv sb n] W (SortTo w0 g sb S n (insertionSort (before S) d a b)) := by
  have hmix : Try.prog.follows .mixedOrders = true := by kernel_rfl
  have H0 := Bx.mk hs
  have HN0 := Bx.mk hN
  clear hs hN
  unfold insertionSort
  obtain ⟨R, hR⟩ : ∃ R, insOuter (before S) a b (a + 1) d = R := ⟨_, rfl⟩
  have HR := Bx.mk hR
  rw [hR]
  clear hR
  go_enter Try.func41, Try.ntmps41
  go_wp2
  go_loopw [8] (fun s8 wr => ∃ (i : Nat) (e : Array Nat), s8 = .int .i64 (i : Int) ∧ a < i ∧ i ≤ b + 1 ∧ e.size = N ∧ Bx (SS w0 g sb S n e wr) ∧ Bx (insOuter (before S) a b i e = R)) (fun s8 _ => b + 1 - (intOf s8).toNat)
  case atStart => exact ⟨a + 1, d, by go_num, by omega, by omega, HN0.out, H0, HR⟩
  case round =>
    clear H0 HR HN0
    obtain ⟨i, e, rfl, hai, hib, hse, HE, HO⟩ := hrel
    by_cases hlt : i < b
    · have hltz : (i : Int) < (b : Int) := by omega
      have HO2 := Bx.mk ((insOuter_go (before S) a b i e hlt).symm.trans HO.out)
      go_wp2
      go_loopw [9] (fun s9 wr2 => ∃ (j : Nat) (f : Array Nat), s9 = .int .i64 (j : Int) ∧ a ≤ j ∧ j ≤ i ∧ f.size = N ∧ Bx (SS w0 g sb S n f wr2) ∧ Bx (insInner (before S) a j f = insInner (before S) a i e)) (fun s9 _ => (intOf s9).toNat)
      case atStart => exact ⟨i, e, rfl, by omega, Nat.le_refl _, hse, HE, ⟨rfl⟩⟩
      case round =>
        clear HE HO hse
        obtain ⟨j, f, rfl, haj, hji, hsf, HF, HI⟩ := hrel
        by_cases hja : a < j
        · obtain ⟨jp, rfl⟩ : ∃ jp, j = jp + 1 := ⟨j - 1, by omega⟩
          have hI := insInner_succ (before S) a jp f
          have hjd : decide (jp + 1 > a) = true := decide_eq_true (by omega)
          rw [hjd, Bool.true_and] at hI
          have hjaz : (a : Int) < (jp : Int) + 1 := by omega
          have hjad : decide ((jp : Int) + 1 > (a : Int)) = true := decide_eq_true (by omega)
          have hr1 : IntKind.i64.wrap ((jp : Int) + 1) = (jp : Int) + 1 := by rw [IntKind.wrap_i64]; omega
          have hr2 : IntKind.i64.wrap (jp : Int) = (jp : Int) := by rw [IntKind.wrap_i64]; omega
          cases hlv : before S f[jp + 1]! f[jp]! with
          | true =>
            rw [hlv, if_pos rfl] at hI
            have HI2 := Bx.mk (hI.symm.trans HI.out)
            clear hI HI
            obtain ⟨i1, hi1⟩ : ∃ q, q = jp + 1 := ⟨_, rfl⟩
            obtain ⟨j1, hj1⟩ : ∃ q, q = jp := ⟨_, rfl⟩
            have ea1 : ((jp : Int) + 1 : Int).toNat = i1 := by omega
            have pa1 : (0 : Int) ≤ (jp : Int) + 1 := by omega
            have ba1 : ((jp : Int) + 1 : Int) < (N : Int) := by omega
            have ec1 : ((jp : Int) : Int).toNat = j1 := by omega
            have pc1 : (0 : Int) ≤ (jp : Int) := by omega
            have bc1 : ((jp : Int) : Int) < (N : Int) := by omega
            have la1 := HF.out.cl (i := jp + 1) (by omega)
            have lb1 := HF.out.cl (i := jp) (by omega)
            have hx1 := HF.out.lt (jp + 1) (by omega)
            have hy1 := HF.out.lt (jp) (by omega)
            have hv1 : decide (cfv S f[jp + 1]! f[jp]! < 0) = true := (cfv_lt S _ _).trans hlv
            rw [← hi1] at la1 hx1 hv1
            rw [← hj1] at lb1 hy1 hv1
            obtain ⟨x1, hxx1⟩ : ∃ q, q = f[i1]! := ⟨_, rfl⟩
            obtain ⟨y1, hyy1⟩ : ∃ q, q = f[j1]! := ⟨_, rfl⟩
            rw [← hxx1] at la1 hx1 hv1
            rw [← hyy1] at lb1 hy1 hv1
            have hc1 := HF.out.cmp hn hx1 hy1
            generalize cfv S x1 y1 = v1 at hc1 hv1
            clear hx1 hy1 hxx1 hyy1 hi1 hj1 hlv
            go_wp2_with fail
            go_quiet_grown (first | (go_at_call 27; exact hc1 _ _))
            have HS1 := Bx.mk (HF.out.grew (grew_of _ nq osq))
            generalize grow (World.drewN wr nq) osq = W1 at *
            clear la1 lb1 hc1 ea1 pa1 ba1 ec1 pc1 bc1
            clear HF
            have hSF := HS1.out
            obtain ⟨i2, hi2⟩ : ∃ q, q = jp + 1 := ⟨_, rfl⟩
            obtain ⟨j2, hj2⟩ : ∃ q, q = jp := ⟨_, rfl⟩
            have ea2 : ((jp : Int) + 1 : Int).toNat = i2 := by omega
            have pa2 : (0 : Int) ≤ (jp : Int) + 1 := by omega
            have ba2 : ((jp : Int) + 1 : Int) < (N : Int) := by omega
            have ec2 : ((jp : Int) : Int).toNat = j2 := by omega
            have pc2 : (0 : Int) ≤ (jp : Int) := by omega
            have bc2 : ((jp : Int) : Int) < (N : Int) := by omega
            have la2 := hSF.cell (i := jp + 1) (by omega)
            have lb2 := hSF.cell (i := jp) (by omega)
            have fa2 := hSF.live (jp + 1)
            have fb2 := hSF.live (jp)
            have HZ2 := Bx.mk (hSF.swap (i := jp + 1) (j := jp) (by omega) (by omega)).drew
            obtain ⟨u2, hu2⟩ := hSF.cell2 (i := jp + 1) (j := jp) (by omega) (by omega) (.int .i64 (f[jp]! : Int))
            obtain ⟨e2, he2⟩ : ∃ q, swp f (jp + 1) (jp) = q := ⟨_, rfl⟩
            have hsz2 : e2.size = f.size := by rw [← he2]; exact swp_sz _ _ _
            rw [he2] at HZ2
            rw [← hi2] at la2 fa2 HZ2 hu2
            rw [← hj2] at lb2 fb2 HZ2 hu2
            obtain ⟨x2, hx2⟩ : ∃ q, q = (f[i2]! : Int) := ⟨_, rfl⟩
            obtain ⟨y2, hy2⟩ : ∃ q, q = (f[j2]! : Int) := ⟨_, rfl⟩
            rw [← hx2] at la2 HZ2
            rw [← hy2] at lb2 HZ2 hu2
            clear hx2 hy2 hi2 hj2
            have HE2 := Bx.mk he2
            clear he2
            go_wp2_with fail
            go_region
            clear HS1 hSF
            all_goals
              go_wp2
              go_roundw
              case rel => exact ⟨jp, e2, by go_num, by omega, by omega, by omega, HZ2, by rw [HE2.out] at HI2; exact HI2⟩
              case measure => (simp [intOf]) <;> omega
          | false =>
            rw [hlv, if_neg (by simp)] at hI
            have HI2 := Bx.mk (hI.symm.trans HI.out)
            clear hI HI
            obtain ⟨i3, hi3⟩ : ∃ q, q = jp + 1 := ⟨_, rfl⟩
            obtain ⟨j3, hj3⟩ : ∃ q, q = jp := ⟨_, rfl⟩
            have ea3 : ((jp : Int) + 1 : Int).toNat = i3 := by omega
            have pa3 : (0 : Int) ≤ (jp : Int) + 1 := by omega
            have ba3 : ((jp : Int) + 1 : Int) < (N : Int) := by omega
            have ec3 : ((jp : Int) : Int).toNat = j3 := by omega
            have pc3 : (0 : Int) ≤ (jp : Int) := by omega
            have bc3 : ((jp : Int) : Int) < (N : Int) := by omega
            have la3 := HF.out.cl (i := jp + 1) (by omega)
            have lb3 := HF.out.cl (i := jp) (by omega)
            have hx3 := HF.out.lt (jp + 1) (by omega)
            have hy3 := HF.out.lt (jp) (by omega)
            have hv3 : decide (cfv S f[jp + 1]! f[jp]! < 0) = false := (cfv_lt S _ _).trans hlv
            rw [← hi3] at la3 hx3 hv3
            rw [← hj3] at lb3 hy3 hv3
            obtain ⟨x3, hxx3⟩ : ∃ q, q = f[i3]! := ⟨_, rfl⟩
            obtain ⟨y3, hyy3⟩ : ∃ q, q = f[j3]! := ⟨_, rfl⟩
            rw [← hxx3] at la3 hx3 hv3
            rw [← hyy3] at lb3 hy3 hv3
            have hc3 := HF.out.cmp hn hx3 hy3
            generalize cfv S x3 y3 = v3 at hc3 hv3
            clear hx3 hy3 hxx3 hyy3 hi3 hj3 hlv
            go_wp2_with fail
            go_quiet_grown (first | (go_at_call 27; exact hc3 _ _))
            have HS3 := Bx.mk (HF.out.grew (grew_of _ nq osq))
            generalize grow (World.drewN wr nq) osq = W3 at *
            clear la3 lb3 hc3 ea3 pa3 ba3 ec3 pc3 bc3
            go_wp2
            go_roundw
            case rel => exact ⟨i + 1, f, by go_num, by omega, by omega, hsf, HS3, by have := HO2.out; rw [← HI2.out] at this; exact ⟨this⟩⟩
            case measure => (simp [intOf]) <;> omega
        · have hjad : decide ((j : Int) > (a : Int)) = false := decide_eq_false (by omega)
          have hjaz : (j : Int) ≤ (a : Int) := by omega
          have HI2 := Bx.mk ((insInner_end (before S) f (show j ≤ a by omega)).symm.trans HI.out)
          clear HI
          go_wp2_with fail
          go_region
          have HS3 := Bx.mk HF.out.drew
          generalize wr.drew = W3 at *
          clear HF
          go_wp2
          go_roundw
          case rel => exact ⟨i + 1, f, by go_num, by omega, by omega, hsf, HS3, by have := HO2.out; rw [← HI2.out] at this; exact ⟨this⟩⟩
          case measure => (simp [intOf]) <;> omega
    · have HO2 := (insOuter_end (before S) a b i e hlt).symm.trans HO.out
      subst HO2
      have hltz : (b : Int) ≤ (i : Int) := by omega
      go_wp2
      go_end0
      exact ⟨rfl, HE.out⟩
end Go.Proofs.Ytimlcjdpnhhjdaa.rk
