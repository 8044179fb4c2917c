/-
  Given for the seat's laws: the contract of the breaking of patterns in a short row. No condition but those of the theorems.
-/
import Derived.Test.YtimlcjdpnhhjdaaRBrk0
namespace Go.Proofs.Ytimlcjdpnhhjdaa.rk
open Go.RowKit mem sp
open Go.Sort (grow swp PermIn SortedIn)
set_option linter.unusedVariables false

theorem pow_any {L : Nat} (h1 : 13 ≤ L) (h2 : L ≤ 16) : ∃ M : Nat, 1 ≤ M ∧ M ≤ 2 * L ∧ ∀ w, Calls Try.prog 58 #[.int .i64 (L : Int)] w fun e w' => e = .returned (.int .u64 (M : Int)) ∧ w' = w := by
  rcases (show L = 13 ∨ L = 14 ∨ L = 15 ∨ L = 16 by omega) with rfl | rfl | rfl | rfl
  · exact ⟨16, by omega, by omega, pow_13⟩
  · exact ⟨16, by omega, by omega, pow_14⟩
  · exact ⟨16, by omega, by omega, pow_15⟩
  · exact ⟨32, by omega, by omega, pow_16⟩
theorem and_small (r : W64) {M : Nat} (h1 : 1 ≤ M) (h2 : M ≤ 1000) : ∃ o : Nat, bits .and .u64 (num r) ((M : Int) - 1) = (o : Int) ∧ o + 1 ≤ M := by
  have hr := num_range r
  refine ⟨_, u64_and _ _ hr.1 hr.2 (by omega) (by omega), ?_⟩
  have := Nat.and_le_right (n := (num r).toNat) (m := ((M : Int) - 1).toNat)
  omega

def BrkTo (w0 : World) (g sb : Nat) (S : Nat → Sc) (n : Nat) (d : Array Nat) (a b : Nat) (e : Ending) (w' : World) : Prop :=
  ∃ f : Array Nat, e = .returned (.tuple #[]) ∧ PermIn a b d f ∧ SS w0 g sb S n f w'

set_option maxHeartbeats 2000000 in
set_option maxRecDepth 100000 in
theorem brk_any {w0 W : World} {g sb n N a b L : Nat} {S : Nat → Sc} {d : Array Nat} (hs : SS w0 g sb S n d W) (hsb : sb < W.heap.size) (hN : d.size = N) (hab : b = a + L) (hL1 : 13 ≤ L) (hL2 : L ≤ 16) (hb : b ≤ N) (hn : n ≤ 1000) (hN2 : N ≤ 1000) :
    Calls Try.prog 43 #[.slice (some ⟨g, 0, none⟩) N N, .int .i64 (a : Int), .int .i64 (b : Int), fv sb n] W (BrkTo w0 g sb S n d a b) := by
  have hmix : Try.prog.follows .mixedOrders = true := by kernel_rfl
  have HX := XS.start hs hsb (mk L)
  rw [num_mk (show L < 18446744073709551616 by omega)] at HX
  have H0 := Bx.mk HX
  obtain ⟨M, hM1, hM2, hM⟩ := pow_any hL1 hL2
  have HM := Bx.mk hM
  have hz : (b : Int) - (a : Int) = (L : Int) := by omega
  obtain ⟨q, hq⟩ : ∃ q, q = L / 4 := ⟨_, rfl⟩
  have hqz : (L : Int) / 4 = (q : Int) := by omega
  obtain ⟨I, hI⟩ : ∃ I, I + 1 = a + q * 2 := ⟨a + q * 2 - 1, by omega⟩
  have hIz : (a : Int) + (q : Int) * 2 - 1 = (I : Int) := by omega
  have hIb : a ≤ I ∧ I + 2 < b := by omega
  have HN := Bx.mk hN
  have hLz : (8 : Int) ≤ (L : Int) := by omega
  have HP0 : Bx (PermIn a b d d) := ⟨Go.Sort.permIn_refl d a b⟩
  have HAB := Bx.mk hab
  have hq4 : q ≤ 4 := by omega
  have haz : a ≤ 1000 := by omega
  have hI2 := Bx.mk hI
  clear hs HX hM hN hq hI hab
  go_enter Try.func43, Try.ntmps43
  go_wp2_with (first | (go_at_call 58; refine (HM.out _).mono ?_; rintro e w' ⟨rfl, rfl⟩))
  go_loopw [11, 12] (fun s11 s12 wr => ∃ (i : Nat) (f : Array Nat) (r : W64), s11 = .int .i64 (i : Int) ∧ I ≤ i ∧ i ≤ I + 3 ∧ f.size = N ∧ Bx (PermIn a b d f) ∧ Bx (XS w0 g sb S n f W.heap.size r wr)) (fun s11 _ _ => N + 5 - (intOf s11).toNat)
  case atStart => exact ⟨I, d, mk L, by go_num, by omega, by omega, HN.out, HP0, by have := H0.out; first | exact ⟨this⟩ | (rw [num_mk (by omega)] at this; exact ⟨this⟩)⟩
  case round =>
    clear H0 HP0
    obtain ⟨i, f, r, rfl, hi1, hi2, hsf, HP, HF⟩ := hrel
    by_cases hle : i ≤ I + 2
    · have hlez : (i : Int) ≤ (a : Int) + (q : Int) * 2 + 1 := by have := hI2.out; omega
      have HNX := Bx.mk (next_any HF.out)
      go_wp2_with fail
      refine HNX.out.mono ?_
      rintro e w2 ⟨r2, rfl, hx2⟩
      have HF2 := Bx.mk hx2
      obtain ⟨o, ho, hoM⟩ := and_small r2 hM1 (show M ≤ 1000 by omega)
      clear hx2 HF HNX
      by_cases hge : L ≤ o
      · have hgez : (L : Int) ≤ (o : Int) := by omega
        obtain ⟨p, hp⟩ : ∃ p, p + L = o := ⟨o - L, by omega⟩
        have hpz : (o : Int) - (L : Int) = (p : Int) := by omega
        obtain ⟨t, ht⟩ : ∃ t, t = a + p := ⟨_, rfl⟩
        have htz : (a : Int) + (p : Int) = (t : Int) := by omega
        have htb : a ≤ t ∧ t < b := by have := HAB.out; omega
        have hSF := HF2.out.ss
        have hXF := HF2.out
        clear hp ht
        obtain ⟨i1, hi1⟩ : ∃ q, q = i := ⟨_, rfl⟩
        obtain ⟨j1, hj1⟩ : ∃ q, q = t := ⟨_, rfl⟩
        have ea1 : ((i : Int) : Int).toNat = i1 := by omega
        have pa1 : (0 : Int) ≤ (i : Int) := by omega
        have ba1 : ((i : Int) : Int) < (N : Int) := by omega
        have ec1 : ((t : Int) : Int).toNat = j1 := by omega
        have pc1 : (0 : Int) ≤ (t : Int) := by omega
        have bc1 : ((t : Int) : Int) < (N : Int) := by omega
        have la1 := hSF.cell (i := i) (by omega)
        have lb1 := hSF.cell (i := t) (by omega)
        have fa1 := hSF.live (i)
        have fb1 := hSF.live (t)
        have HZ1 := Bx.mk (hXF.swap (i := i) (j := t) (by omega) (by omega)).drew
        obtain ⟨u1, hu1⟩ := hSF.cell2 (i := i) (j := t) (by omega) (by omega) (.int .i64 (f[t]! : Int))
        obtain ⟨e1, he1⟩ : ∃ q, swp f (i) (t) = q := ⟨_, rfl⟩
        have hsz1 : e1.size = f.size := by rw [← he1]; exact swp_sz _ _ _
        rw [he1] at HZ1
        rw [← hi1] at la1 fa1 HZ1 hu1
        rw [← hj1] at lb1 fb1 HZ1 hu1
        obtain ⟨x1, hx1⟩ : ∃ q, q = (f[i1]! : Int) := ⟨_, rfl⟩
        obtain ⟨y1, hy1⟩ : ∃ q, q = (f[j1]! : Int) := ⟨_, rfl⟩
        rw [← hx1] at la1 HZ1
        rw [← hy1] at lb1 HZ1 hu1
        clear hx1 hy1 hi1 hj1
        have HE1 := Bx.mk he1
        clear he1
        go_wp2_with fail
        go_region
        all_goals generalize (World.setCell (World.setCell w2 ⟨g, i1, none⟩ (.int .i64 y1)) ⟨g, j1, none⟩ (.int .i64 x1)).drew = Wz1 at *
        all_goals clear ea1 pa1 ba1 ec1 pc1 bc1 la1 lb1 fa1 fb1 hu1
        clear hSF hXF HF2
        all_goals
          have HP2 : Bx (PermIn a b d e1) := ⟨Go.Sort.permIn_trans d f e1 a b HP.out (by rw [← HE1.out]; exact Go.Sort.swp_permIn f a b i t (by omega) (by omega) htb.1 htb.2 (by omega))⟩
          clear HP HE1
          go_wp2
          go_roundw
          case rel => exact ⟨i + 1, e1, r2, by go_num, by omega, by omega, by omega, HP2, HZ1⟩
          case measure => (simp [intOf]) <;> omega
      · have hgez : (o : Int) < (L : Int) := by omega
        obtain ⟨t, ht⟩ : ∃ t, t = a + o := ⟨_, rfl⟩
        have htz : (a : Int) + (o : Int) = (t : Int) := by omega
        have htb : a ≤ t ∧ t < b := by have := HAB.out; omega
        have hSF := HF2.out.ss
        have hXF := HF2.out
        clear ht hge
        obtain ⟨i2, hi2⟩ : ∃ q, q = i := ⟨_, rfl⟩
        obtain ⟨j2, hj2⟩ : ∃ q, q = t := ⟨_, rfl⟩
        have ea2 : ((i : Int) : Int).toNat = i2 := by omega
        have pa2 : (0 : Int) ≤ (i : Int) := by omega
        have ba2 : ((i : Int) : Int) < (N : Int) := by omega
        have ec2 : ((t : Int) : Int).toNat = j2 := by omega
        have pc2 : (0 : Int) ≤ (t : Int) := by omega
        have bc2 : ((t : Int) : Int) < (N : Int) := by omega
        have la2 := hSF.cell (i := i) (by omega)
        have lb2 := hSF.cell (i := t) (by omega)
        have fa2 := hSF.live (i)
        have fb2 := hSF.live (t)
        have HZ2 := Bx.mk (hXF.swap (i := i) (j := t) (by omega) (by omega)).drew
        obtain ⟨u2, hu2⟩ := hSF.cell2 (i := i) (j := t) (by omega) (by omega) (.int .i64 (f[t]! : Int))
        obtain ⟨e2, he2⟩ : ∃ q, swp f (i) (t) = q := ⟨_, rfl⟩
        have hsz2 : e2.size = f.size := by rw [← he2]; exact swp_sz _ _ _
        rw [he2] at HZ2
        rw [← hi2] at la2 fa2 HZ2 hu2
        rw [← hj2] at lb2 fb2 HZ2 hu2
        obtain ⟨x2, hx2⟩ : ∃ q, q = (f[i2]! : Int) := ⟨_, rfl⟩
        obtain ⟨y2, hy2⟩ : ∃ q, q = (f[j2]! : Int) := ⟨_, rfl⟩
        rw [← hx2] at la2 HZ2
        rw [← hy2] at lb2 HZ2 hu2
        clear hx2 hy2 hi2 hj2
        have HE2 := Bx.mk he2
        clear he2
        go_wp2_with fail
        go_region
        all_goals generalize (World.setCell (World.setCell w2 ⟨g, i2, none⟩ (.int .i64 y2)) ⟨g, j2, none⟩ (.int .i64 x2)).drew = Wz2 at *
        all_goals clear ea2 pa2 ba2 ec2 pc2 bc2 la2 lb2 fa2 fb2 hu2
        clear hSF hXF HF2
        all_goals
          have HP2 : Bx (PermIn a b d e2) := ⟨Go.Sort.permIn_trans d f e2 a b HP.out (by rw [← HE2.out]; exact Go.Sort.swp_permIn f a b i t (by omega) (by omega) htb.1 htb.2 (by omega))⟩
          clear HP HE2
          go_wp2
          go_roundw
          case rel => exact ⟨i + 1, e2, r2, by go_num, by omega, by omega, by omega, HP2, HZ2⟩
          case measure => (simp [intOf]) <;> omega
    · have hlez : (a : Int) + (q : Int) * 2 + 1 < (i : Int) := by have := hI2.out; omega
      clear hle
      go_wp2
      go_end0
      exact ⟨f, rfl, HP.out, HF.out.ss⟩
end Go.Proofs.Ytimlcjdpnhhjdaa.rk
