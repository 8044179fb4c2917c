/-
  Given for the seat's laws: the contract of the parting of a row. No condition but those of the theorems.
-/
import Derived.Test.YtimlcjdpnhhjdaaRSort0
import Derived.BigRegion
import Derived.Deep.CutBlock
import Derived.Deep.DeepCutAuto
namespace Go.Proofs.Ytimlcjdpnhhjdaa.rk
open Go.RowKit mem sp
open Go.Sort (grow swp PermIn SortedIn scanUp scanDown partLoop)
set_option linter.unusedVariables false

theorem scanUp_go {p : Nat → Bool} {d : Array Nat} {j i : Nat} (h : i ≤ j) (hp : p d[i]! = true) : scanUp p d j i = scanUp p d j (i + 1) := by
  conv => lhs; rw [scanUp]
  rw [if_pos (by rw [hp]; simpa using h)]
theorem scanUp_stop {p : Nat → Bool} {d : Array Nat} {j i : Nat} (h : j < i ∨ p d[i]! = false) : scanUp p d j i = i := by
  rw [scanUp]
  rw [if_neg]
  rcases h with h | h
  · have : decide (i ≤ j) = false := decide_eq_false (by omega)
    rw [this]; simp
  · rw [h]; simp
theorem scanDown_go {p : Nat → Bool} {d : Array Nat} {j i : Nat} (h : i ≤ j + 1) (hp : p d[j + 1]! = true) : scanDown p d i (j + 1) = scanDown p d i j := by
  show (if i ≤ j + 1 && p d[j + 1]! then scanDown p d i j else j + 1) = _
  rw [if_pos (by rw [hp]; simpa using h)]
theorem scanDown_stop {p : Nat → Bool} {d : Array Nat} {j i : Nat} (h : j < i ∨ p d[j]! = false) : scanDown p d i j = j := by
  cases j with
  | zero => rfl
  | succ j =>
    show (if i ≤ j + 1 && p d[j + 1]! then scanDown p d i j else j + 1) = _
    rw [if_neg]
    rcases h with h | h
    · have : decide (i ≤ j + 1) = false := decide_eq_false (by omega)
      rw [this]; simp
    · rw [h]; simp
def upp (S : Nat → Sc) (d : Array Nat) (a : Nat) : Nat → Bool := fun x => before S x d[a]!
def dnn (S : Nat → Sc) (d : Array Nat) (a : Nat) : Nat → Bool := fun x => !before S x d[a]!
theorem partLoop_eq (S : Nat → Sc) (a i j : Nat) (d : Array Nat) {I J : Nat} (hI : scanUp (upp S d a) d j i = I) (hJ : scanDown (dnn S d a) d I j = J) :
    partLoop (before S) a i j d = if I > J then (J, d) else if (J - 1) + 1 - (I + 1) < j + 1 - i then partLoop (before S) a (I + 1) (J - 1) (swp d I J) else (J, d) := by
  subst hI
  subst hJ
  conv => lhs; rw [partLoop]
  rfl
theorem partition_eq (S : Nat → Sc) (a b pivot : Nat) (d : Array Nat) {e : Array Nat} {I J : Nat} (he : swp d a pivot = e) (hI : scanUp (upp S e a) e (b - 1) (a + 1) = I) (hJ : scanDown (dnn S e a) e I (b - 1) = J) :
    Go.Sort.partition (before S) d a b pivot = if I > J then (J, true, swp e J a) else ((partLoop (before S) a (I + 1) (J - 1) (swp e I J)).1, false, swp (partLoop (before S) a (I + 1) (J - 1) (swp e I J)).2 (partLoop (before S) a (I + 1) (J - 1) (swp e I J)).1 a) := by
  subst he
  subst hI
  subst hJ
  rfl

def PartTo (w0 : World) (g sb : Nat) (S : Nat → Sc) (n : Nat) (R : Nat × Bool × Array Nat) (e : Ending) (w' : World) : Prop :=
  e = .returned (.tuple #[.int .i64 (R.1 : Int), .bool R.2.1]) ∧ SS w0 g sb S n R.2.2 w'

set_option maxHeartbeats 4000000 in
set_option maxRecDepth 100000 in
theorem part_any {w0 W : World} {g sb n N a bp pv : Nat} {S : Nat → Sc} {d : Array Nat} (hs : SS w0 g sb S n d W) (hN : d.size = N) (hab : a < bp) (hb : bp + 1 ≤ N) (hp1 : a ≤ pv) (hp2 : pv ≤ bp) (hn : n ≤ 1000) (hN2 : N ≤ 1000) :
    Calls Try.prog 48 #[.slice (some ⟨g, 0, none⟩) N N, .int .i64 (a : Int), .int .i64 ((bp : Int) + 1), .int .i64 (pv : Int), fv sb n] W (PartTo w0 g sb S n (Go.Sort.partition (before S) d a (bp + 1) pv)) := by
  have hmix : Try.prog.follows .mixedOrders = true := by kernel_rfl
  obtain ⟨R, hR⟩ : ∃ R, Go.Sort.partition (before S) d a (bp + 1) pv = R := ⟨_, rfl⟩
  have HR := Bx.mk hR
  rw [hR]
  clear hR
  have hr0 : IntKind.i64.wrap ((bp : Int) + 1) = (bp : Int) + 1 := by rw [IntKind.wrap_i64]; omega
  go_enter Try.func48, Try.ntmps48
  obtain ⟨i0, hi0⟩ : ∃ q, q = a := ⟨_, rfl⟩
  obtain ⟨j0, hj0⟩ : ∃ q, q = pv := ⟨_, rfl⟩
  have ea0 : ((a : Int) : Int).toNat = i0 := by omega
  have pa0 : (0 : Int) ≤ (a : Int) := by omega
  have ba0 : ((a : Int) : Int) < (N : Int) := by omega
  have ec0 : ((pv : Int) : Int).toNat = j0 := by omega
  have pc0 : (0 : Int) ≤ (pv : Int) := by omega
  have bc0 : ((pv : Int) : Int) < (N : Int) := by omega
  have la0 := hs.cell (i := a) (by omega)
  have lb0 := hs.cell (i := pv) (by omega)
  have fa0 := hs.live (a)
  have fb0 := hs.live (pv)
  have HZ0 := Bx.mk (hs.swap (i := a) (j := pv) (by omega) (by omega)).drew
  obtain ⟨u0, hu0⟩ := hs.cell2 (i := a) (j := pv) (by omega) (by omega) (.int .i64 (d[pv]! : Int))
  obtain ⟨e0, he0⟩ : ∃ q, swp d (a) (pv) = q := ⟨_, rfl⟩
  have hsz0 : e0.size = d.size := by rw [← he0]; exact swp_sz _ _ _
  rw [he0] at HZ0
  rw [← hi0] at la0 fa0 HZ0 hu0
  rw [← hj0] at lb0 fb0 HZ0 hu0
  obtain ⟨x0, hx0⟩ : ∃ q, q = (d[i0]! : Int) := ⟨_, rfl⟩
  obtain ⟨y0, hy0⟩ : ∃ q, q = (d[j0]! : Int) := ⟨_, rfl⟩
  rw [← hx0] at la0 HZ0
  rw [← hy0] at lb0 HZ0 hu0
  clear hx0 hy0 hi0 hj0
  have HE0 := Bx.mk he0
  clear he0
  go_wp2_with fail
  go_region
  all_goals generalize (World.setCell (World.setCell W ⟨g, i0, none⟩ (.int .i64 y0)) ⟨g, j0, none⟩ (.int .i64 x0)).drew = Wz0 at *
  all_goals clear ea0 pa0 ba0 ec0 pc0 bc0 la0 lb0 fa0 fb0 hu0
  clear hs
  all_goals
    have hse : e0.size = N := by omega
    have HR1 := Bx.mk (fun I J hI hJ => (partition_eq S a (bp + 1) pv d (I := I) (J := J) HE0.out hI hJ).symm.trans HR.out)
    clear HR HE0 hsz0
    go_upto_block 0 with fail
    obtain ⟨I1, hI1⟩ : ∃ q, scanUp (upp S e0 a) e0 bp (a + 1) = q := ⟨_, rfl⟩
    have HI1 := Bx.mk hI1
    clear hI1
    go_cut [12] (fun s12 wx => s12 = .int .i64 (I1 : Int) ∧ (a + 1) ≤ I1 ∧ (I1 ≤ bp + 1 ∨ I1 = (a + 1)) ∧ Bx (SS w0 g sb S n e0 wx))
    case first =>
      go_wp2_with fail
      go_loopw [12] (fun s12 wr => ∃ i : Nat, s12 = .int .i64 (i : Int) ∧ (a + 1) ≤ i ∧ (i ≤ bp + 1 ∨ i = (a + 1)) ∧ Bx (SS w0 g sb S n e0 wr) ∧ Bx (scanUp (upp S e0 a) e0 bp i = I1)) (fun s12 _ => N + 5 - (intOf s12).toNat)
      case atStart => exact ⟨(a + 1), by go_num, Nat.le_refl _, .inr rfl, HZ0, HI1⟩
      case round =>
        clear HZ0 HI1
        obtain ⟨i, rfl, hi1, hi2, HF, HI⟩ := hrel
        by_cases hle : i ≤ bp
        · have hlez : (i : Int) ≤ (bp : Int) := by omega
          have hled : decide ((i : Int) ≤ (bp : Int)) = true := decide_eq_true hlez
          cases hlv : before S e0[i]! e0[a]! with
          | true =>
            have HI2 := Bx.mk ((scanUp_go (p := upp S e0 a) hle hlv).symm.trans HI.out)
            obtain ⟨i1a, hi1a⟩ : ∃ q, q = i := ⟨_, rfl⟩
            obtain ⟨j1a, hj1a⟩ : ∃ q, q = a := ⟨_, rfl⟩
            have ea1a : ((i : Int) : Int).toNat = i1a := by omega
            have pa1a : (0 : Int) ≤ (i : Int) := by omega
            have ba1a : ((i : Int) : Int) < (N : Int) := by omega
            have ec1a : ((a : Int) : Int).toNat = j1a := by omega
            have pc1a : (0 : Int) ≤ (a : Int) := by omega
            have bc1a : ((a : Int) : Int) < (N : Int) := by omega
            have la1a := HF.out.cl (i := i) (by omega)
            have lb1a := HF.out.cl (i := a) (by omega)
            have hx1a := HF.out.lt (i) (by omega)
            have hy1a := HF.out.lt (a) (by omega)
            have hv1a : decide (cfv S e0[i]! e0[a]! < 0) = true := (cfv_lt S _ _).trans hlv
            rw [← hi1a] at la1a hx1a hv1a
            rw [← hj1a] at lb1a hy1a hv1a
            obtain ⟨x1a, hxx1a⟩ : ∃ q, q = e0[i1a]! := ⟨_, rfl⟩
            obtain ⟨y1a, hyy1a⟩ : ∃ q, q = e0[j1a]! := ⟨_, rfl⟩
            rw [← hxx1a] at la1a hx1a hv1a
            rw [← hyy1a] at lb1a hy1a hv1a
            have hc1a := HF.out.cmp hn hx1a hy1a
            generalize cfv S x1a y1a = v1a at hc1a hv1a
            clear hx1a hy1a hxx1a hyy1a hi1a hj1a hlv
            go_wp2_with fail
            go_quiet_grown (first | (go_at_call 27; exact hc1a _ _))
            have HS1a := Bx.mk (HF.out.grew (grew_of _ nq osq))
            generalize grow (World.drewN wr nq) osq = W1a at *
            clear la1a lb1a hc1a ea1a pa1a ba1a ec1a pc1a bc1a
            clear HF HI
            go_wp2
            go_roundw
            case rel => first | exact ⟨i + 1, by go_num, by omega, by omega, HS1a, HI2⟩ | ((repeat apply Exists.intro); refine ⟨⟨i + 1, ?_, by omega, by omega, HS1a, HI2⟩, rfl⟩; go_num)
            case measure => (simp [intOf]) <;> omega
          | false =>
            have HI2 := Bx.mk ((scanUp_stop (p := upp S e0 a) (.inr hlv)).symm.trans HI.out)
            obtain ⟨i1b, hi1b⟩ : ∃ q, q = i := ⟨_, rfl⟩
            obtain ⟨j1b, hj1b⟩ : ∃ q, q = a := ⟨_, rfl⟩
            have ea1b : ((i : Int) : Int).toNat = i1b := by omega
            have pa1b : (0 : Int) ≤ (i : Int) := by omega
            have ba1b : ((i : Int) : Int) < (N : Int) := by omega
            have ec1b : ((a : Int) : Int).toNat = j1b := by omega
            have pc1b : (0 : Int) ≤ (a : Int) := by omega
            have bc1b : ((a : Int) : Int) < (N : Int) := by omega
            have la1b := HF.out.cl (i := i) (by omega)
            have lb1b := HF.out.cl (i := a) (by omega)
            have hx1b := HF.out.lt (i) (by omega)
            have hy1b := HF.out.lt (a) (by omega)
            have hv1b : decide (cfv S e0[i]! e0[a]! < 0) = false := (cfv_lt S _ _).trans hlv
            rw [← hi1b] at la1b hx1b hv1b
            rw [← hj1b] at lb1b hy1b hv1b
            obtain ⟨x1b, hxx1b⟩ : ∃ q, q = e0[i1b]! := ⟨_, rfl⟩
            obtain ⟨y1b, hyy1b⟩ : ∃ q, q = e0[j1b]! := ⟨_, rfl⟩
            rw [← hxx1b] at la1b hx1b hv1b
            rw [← hyy1b] at lb1b hy1b hv1b
            have hc1b := HF.out.cmp hn hx1b hy1b
            generalize cfv S x1b y1b = v1b at hc1b hv1b
            clear hx1b hy1b hxx1b hyy1b hi1b hj1b hlv
            go_wp2_with fail
            go_quiet_grown (first | (go_at_call 27; exact hc1b _ _))
            have HS1b := Bx.mk (HF.out.grew (grew_of _ nq osq))
            generalize grow (World.drewN wr nq) osq = W1b at *
            clear la1b lb1b hc1b ea1b pa1b ba1b ec1b pc1b bc1b
            clear HF HI
            go_wp2
            go_meet
            obtain ⟨hI2⟩ := HI2
            subst hI2
            exact ⟨rfl, hi1, by omega, HS1b⟩
        · have hlez : (bp : Int) < (i : Int) := by omega
          have hled : decide ((i : Int) ≤ (bp : Int)) = false := decide_eq_false (by omega)
          have HI2 := Bx.mk ((scanUp_stop (p := upp S e0 a) (.inl (Nat.lt_of_not_le hle))).symm.trans HI.out)
          clear HI
          go_wp2_with fail
          go_region
          have HS1c := Bx.mk HF.out.drew
          generalize wr.drew = W1c at *
          clear HF hle
          go_wp2
          go_meet
          obtain ⟨hI2⟩ := HI2
          subst hI2
          exact ⟨rfl, hi1, by omega, HS1c⟩
    case rest =>
      obtain ⟨rfl, hl1, hm1, HU1⟩ := hcut
      clear HZ0
      go_upto_block 2 with fail
      obtain ⟨J2, hJ2⟩ : ∃ q, scanDown (dnn S e0 a) e0 I1 bp = q := ⟨_, rfl⟩
      have HJ2 := Bx.mk hJ2
      clear hJ2
      go_cut [13] (fun s13 wx => s13 = .int .i64 (J2 : Int) ∧ a ≤ J2 ∧ J2 ≤ bp ∧ Bx (SS w0 g sb S n e0 wx))
      case first =>
        go_wp2_with fail
        go_loopw [13] (fun s13 wr => ∃ j : Nat, s13 = .int .i64 (j : Int) ∧ a ≤ j ∧ j ≤ bp ∧ Bx (SS w0 g sb S n e0 wr) ∧ Bx (scanDown (dnn S e0 a) e0 I1 j = J2)) (fun s13 _ => (intOf s13).toNat)
        case atStart => exact ⟨bp, by go_num, by omega, Nat.le_refl _, HU1, HJ2⟩
        case round =>
          clear HU1 HJ2
          obtain ⟨j, rfl, hj1, hj2, HF, HJ⟩ := hrel
          by_cases hle : I1 ≤ j
          · obtain ⟨jp, rfl⟩ : ∃ jp, j = jp + 1 := ⟨j - 1, by omega⟩
            have hlez : (I1 : Int) ≤ (jp : Int) + 1 := by omega
            have hled : decide ((I1 : Int) ≤ (jp : Int) + 1) = true := decide_eq_true hlez
            have hr1 : IntKind.i64.wrap ((jp : Int) + 1) = (jp : Int) + 1 := by rw [IntKind.wrap_i64]; omega
            cases hlv : before S e0[jp + 1]! e0[a]! with
            | true =>
              have HJ2 := Bx.mk ((scanDown_stop (p := dnn S e0 a) (.inr (by unfold dnn; rw [hlv]; rfl))).symm.trans HJ.out)
              obtain ⟨i2a, hi2a⟩ : ∃ q, q = jp + 1 := ⟨_, rfl⟩
              obtain ⟨j2a, hj2a⟩ : ∃ q, q = a := ⟨_, rfl⟩
              have ea2a : ((jp : Int) + 1 : Int).toNat = i2a := by omega
              have pa2a : (0 : Int) ≤ (jp : Int) + 1 := by omega
              have ba2a : ((jp : Int) + 1 : Int) < (N : Int) := by omega
              have ec2a : ((a : Int) : Int).toNat = j2a := by omega
              have pc2a : (0 : Int) ≤ (a : Int) := by omega
              have bc2a : ((a : Int) : Int) < (N : Int) := by omega
              have la2a := HF.out.cl (i := jp + 1) (by omega)
              have lb2a := HF.out.cl (i := a) (by omega)
              have hx2a := HF.out.lt (jp + 1) (by omega)
              have hy2a := HF.out.lt (a) (by omega)
              have hv2a : decide (cfv S e0[jp + 1]! e0[a]! < 0) = true := (cfv_lt S _ _).trans hlv
              rw [← hi2a] at la2a hx2a hv2a
              rw [← hj2a] at lb2a hy2a hv2a
              obtain ⟨x2a, hxx2a⟩ : ∃ q, q = e0[i2a]! := ⟨_, rfl⟩
              obtain ⟨y2a, hyy2a⟩ : ∃ q, q = e0[j2a]! := ⟨_, rfl⟩
              rw [← hxx2a] at la2a hx2a hv2a
              rw [← hyy2a] at lb2a hy2a hv2a
              have hc2a := HF.out.cmp hn hx2a hy2a
              generalize cfv S x2a y2a = v2a at hc2a hv2a
              clear hx2a hy2a hxx2a hyy2a hi2a hj2a hlv
              go_wp2_with fail
              go_quiet_grown (first | (go_at_call 27; exact hc2a _ _))
              have HS2a := Bx.mk (HF.out.grew (grew_of _ nq osq))
              generalize grow (World.drewN wr nq) osq = W2a at *
              clear la2a lb2a hc2a ea2a pa2a ba2a ec2a pc2a bc2a
              clear HF HJ
              go_wp2
              go_meet
              obtain ⟨hJ2⟩ := HJ2
              subst hJ2
              exact ⟨by go_num, hj1, by omega, HS2a⟩
            | false =>
              have HJ2 := Bx.mk ((scanDown_go (p := dnn S e0 a) hle (by unfold dnn; rw [hlv]; rfl)).symm.trans HJ.out)
              obtain ⟨i2b, hi2b⟩ : ∃ q, q = jp + 1 := ⟨_, rfl⟩
              obtain ⟨j2b, hj2b⟩ : ∃ q, q = a := ⟨_, rfl⟩
              have ea2b : ((jp : Int) + 1 : Int).toNat = i2b := by omega
              have pa2b : (0 : Int) ≤ (jp : Int) + 1 := by omega
              have ba2b : ((jp : Int) + 1 : Int) < (N : Int) := by omega
              have ec2b : ((a : Int) : Int).toNat = j2b := by omega
              have pc2b : (0 : Int) ≤ (a : Int) := by omega
              have bc2b : ((a : Int) : Int) < (N : Int) := by omega
              have la2b := HF.out.cl (i := jp + 1) (by omega)
              have lb2b := HF.out.cl (i := a) (by omega)
              have hx2b := HF.out.lt (jp + 1) (by omega)
              have hy2b := HF.out.lt (a) (by omega)
              have hv2b : decide (cfv S e0[jp + 1]! e0[a]! < 0) = false := (cfv_lt S _ _).trans hlv
              rw [← hi2b] at la2b hx2b hv2b
              rw [← hj2b] at lb2b hy2b hv2b
              obtain ⟨x2b, hxx2b⟩ : ∃ q, q = e0[i2b]! := ⟨_, rfl⟩
              obtain ⟨y2b, hyy2b⟩ : ∃ q, q = e0[j2b]! := ⟨_, rfl⟩
              rw [← hxx2b] at la2b hx2b hv2b
              rw [← hyy2b] at lb2b hy2b hv2b
              have hc2b := HF.out.cmp hn hx2b hy2b
              generalize cfv S x2b y2b = v2b at hc2b hv2b
              clear hx2b hy2b hxx2b hyy2b hi2b hj2b hlv
              go_wp2_with fail
              go_quiet_grown (first | (go_at_call 27; exact hc2b _ _))
              have HS2b := Bx.mk (HF.out.grew (grew_of _ nq osq))
              generalize grow (World.drewN wr nq) osq = W2b at *
              clear la2b lb2b hc2b ea2b pa2b ba2b ec2b pc2b bc2b
              clear HF HJ
              go_wp2
              go_roundw
              case rel => first | exact ⟨jp, by go_num, by omega, by omega, HS2b, HJ2⟩ | ((repeat apply Exists.intro); refine ⟨⟨jp, ?_, by omega, by omega, HS2b, HJ2⟩, rfl⟩; go_num)
              case measure => (simp [intOf]) <;> omega
          · have hlez : (j : Int) < (I1 : Int) := by omega
            have hled : decide ((I1 : Int) ≤ (j : Int)) = false := decide_eq_false (by omega)
            have HJ2 := Bx.mk ((scanDown_stop (p := dnn S e0 a) (.inl (Nat.lt_of_not_le hle))).symm.trans HJ.out)
            clear HJ
            go_wp2_with fail
            go_region
            have HS2c := Bx.mk HF.out.drew
            generalize wr.drew = W2c at *
            clear HF hle
            go_wp2
            go_meet
            obtain ⟨hJ2⟩ := HJ2
            subst hJ2
            exact ⟨rfl, hj1, by omega, HS2c⟩
      case rest =>
        obtain ⟨rfl, hl2, hm2, HU2⟩ := hcut
        clear HU1
        have HR2 := Bx.mk (HR1.out I1 J2 HI1.out HJ2.out)
        clear HR1 HI1 HJ2
        by_cases hgt : J2 < I1
        · have hgtz : (J2 : Int) < (I1 : Int) := by omega
          have hR := HR2.out
          rw [if_pos hgt] at hR
          have HR3 := Bx.mk hR
          clear hR HR2 hgt
          have hSF := HU2.out
          obtain ⟨i3, hi3⟩ : ∃ q, q = J2 := ⟨_, rfl⟩
          obtain ⟨j3, hj3⟩ : ∃ q, q = a := ⟨_, rfl⟩
          have ea3 : ((J2 : Int) : Int).toNat = i3 := by omega
          have pa3 : (0 : Int) ≤ (J2 : Int) := by omega
          have ba3 : ((J2 : Int) : Int) < (N : Int) := by omega
          have ec3 : ((a : Int) : Int).toNat = j3 := by omega
          have pc3 : (0 : Int) ≤ (a : Int) := by omega
          have bc3 : ((a : Int) : Int) < (N : Int) := by omega
          have la3 := hSF.cell (i := J2) (by omega)
          have lb3 := hSF.cell (i := a) (by omega)
          have fa3 := hSF.live (J2)
          have fb3 := hSF.live (a)
          have HZ3 := Bx.mk (hSF.swap (i := J2) (j := a) (by omega) (by omega)).drew
          obtain ⟨u3, hu3⟩ := hSF.cell2 (i := J2) (j := a) (by omega) (by omega) (.int .i64 (e0[a]! : Int))
          obtain ⟨e3, he3⟩ : ∃ q, swp e0 (J2) (a) = q := ⟨_, rfl⟩
          have hsz3 : e3.size = e0.size := by rw [← he3]; exact swp_sz _ _ _
          rw [he3] at HZ3
          rw [← hi3] at la3 fa3 HZ3 hu3
          rw [← hj3] at lb3 fb3 HZ3 hu3
          obtain ⟨x3, hx3⟩ : ∃ q, q = (e0[i3]! : Int) := ⟨_, rfl⟩
          obtain ⟨y3, hy3⟩ : ∃ q, q = (e0[j3]! : Int) := ⟨_, rfl⟩
          rw [← hx3] at la3 HZ3
          rw [← hy3] at lb3 HZ3 hu3
          clear hx3 hy3 hi3 hj3
          have HE3 := Bx.mk he3
          clear he3
          go_wp2_with fail
          go_region
          all_goals generalize (World.setCell (World.setCell wc ⟨g, i3, none⟩ (.int .i64 y3)) ⟨g, j3, none⟩ (.int .i64 x3)).drew = Wz3 at *
          all_goals clear ea3 pa3 ba3 ec3 pc3 bc3 la3 lb3 fa3 fb3 hu3
          clear hSF HU2
          all_goals
            go_wp2
            go_ret2
            exact ⟨by rw [← HR3.out]; rfl, by rw [← HR3.out]; rw [← HE3.out] at HZ3; exact HZ3.out⟩
        · have hgtz : (I1 : Int) ≤ (J2 : Int) := by omega
          have hR := HR2.out
          rw [if_neg hgt] at hR
          have HR3 := Bx.mk hR
          clear hR HR2 hgt
          obtain ⟨J, rfl⟩ : ∃ J, J2 = J + 1 := ⟨J2 - 1, by omega⟩
          have hr1 : IntKind.i64.wrap ((J : Int) + 1) = (J : Int) + 1 := by rw [IntKind.wrap_i64]; omega
          have hSF := HU2.out
          obtain ⟨i4, hi4⟩ : ∃ q, q = I1 := ⟨_, rfl⟩
          obtain ⟨j4, hj4⟩ : ∃ q, q = J + 1 := ⟨_, rfl⟩
          have ea4 : ((I1 : Int) : Int).toNat = i4 := by omega
          have pa4 : (0 : Int) ≤ (I1 : Int) := by omega
          have ba4 : ((I1 : Int) : Int) < (N : Int) := by omega
          have ec4 : ((J : Int) + 1 : Int).toNat = j4 := by omega
          have pc4 : (0 : Int) ≤ (J : Int) + 1 := by omega
          have bc4 : ((J : Int) + 1 : Int) < (N : Int) := by omega
          have la4 := hSF.cell (i := I1) (by omega)
          have lb4 := hSF.cell (i := J + 1) (by omega)
          have fa4 := hSF.live (I1)
          have fb4 := hSF.live (J + 1)
          have HZ4 := Bx.mk (hSF.swap (i := I1) (j := J + 1) (by omega) (by omega)).drew
          obtain ⟨u4, hu4⟩ := hSF.cell2 (i := I1) (j := J + 1) (by omega) (by omega) (.int .i64 (e0[J + 1]! : Int))
          obtain ⟨e4, he4⟩ : ∃ q, swp e0 (I1) (J + 1) = q := ⟨_, rfl⟩
          have hsz4 : e4.size = e0.size := by rw [← he4]; exact swp_sz _ _ _
          rw [he4] at HZ4
          rw [← hi4] at la4 fa4 HZ4 hu4
          rw [← hj4] at lb4 fb4 HZ4 hu4
          obtain ⟨x4, hx4⟩ : ∃ q, q = (e0[i4]! : Int) := ⟨_, rfl⟩
          obtain ⟨y4, hy4⟩ : ∃ q, q = (e0[j4]! : Int) := ⟨_, rfl⟩
          rw [← hx4] at la4 HZ4
          rw [← hy4] at lb4 HZ4 hu4
          clear hx4 hy4 hi4 hj4
          have HE4 := Bx.mk he4
          clear he4
          go_wp2_with fail
          go_region
          all_goals generalize (World.setCell (World.setCell wc ⟨g, i4, none⟩ (.int .i64 y4)) ⟨g, j4, none⟩ (.int .i64 x4)).drew = Wz4 at *
          all_goals clear ea4 pa4 ba4 ec4 pc4 bc4 la4 lb4 fa4 fb4 hu4
          clear hSF HU2
          all_goals
            have hse4 : e4.size = N := by omega
            obtain ⟨Q, hQ⟩ : ∃ Q, partLoop (before S) a (I1 + 1) J e4 = Q := ⟨_, rfl⟩
            have hR3 := HR3.out
            rw [show J + 1 - 1 = J by omega, HE4.out, hQ] at hR3
            have HR4 := Bx.mk hR3
            have HQ := Bx.mk hQ
            clear HR3 hR3 hQ HE4 hsz4
            go_wp2_with fail
            go_loopw [12, 13] (fun s12 s13 wr => ∃ (ii jj : Nat) (f : Array Nat), s12 = .int .i64 (ii : Int) ∧ s13 = .int .i64 (jj : Int) ∧ a < ii ∧ a ≤ jj ∧ jj ≤ bp ∧ ii ≤ jj + 2 ∧ f.size = N ∧ Bx (SS w0 g sb S n f wr) ∧ Bx (partLoop (before S) a ii jj f = Q)) (fun s12 _ _ => N + 5 - (intOf s12).toNat)
            case atStart => exact ⟨I1 + 1, J, e4, by go_num, by go_num, by omega, by omega, by omega, by omega, hse4, HZ4, HQ⟩
            case round =>
              clear HZ4 HQ hgtz hr1
              obtain ⟨ii, jj, f, rfl, rfl, hq1, hq2, hq3, hq4, hsf, HF0, HQ⟩ := hrel
              go_upto_block 6 with fail
              obtain ⟨I5, hI5⟩ : ∃ q, scanUp (upp S f a) f jj ii = q := ⟨_, rfl⟩
              have HI5 := Bx.mk hI5
              clear hI5
              go_cut [12] (fun s12 wx => s12 = .int .i64 (I5 : Int) ∧ ii ≤ I5 ∧ (I5 ≤ jj + 1 ∨ I5 = ii) ∧ Bx (SS w0 g sb S n f wx))
              case first =>
                go_wp2_with fail
                go_loopw [12] (fun s12 wr => ∃ i : Nat, s12 = .int .i64 (i : Int) ∧ ii ≤ i ∧ (i ≤ jj + 1 ∨ i = ii) ∧ Bx (SS w0 g sb S n f wr) ∧ Bx (scanUp (upp S f a) f jj i = I5)) (fun s12 _ => N + 5 - (intOf s12).toNat)
                case atStart => exact ⟨ii, by go_num, Nat.le_refl _, .inr rfl, HF0, HI5⟩
                case round =>
                  clear HF0 HI5
                  obtain ⟨i, rfl, hi1, hi2, HF, HI⟩ := hrel
                  by_cases hle : i ≤ jj
                  · have hlez : (i : Int) ≤ (jj : Int) := by omega
                    have hled : decide ((i : Int) ≤ (jj : Int)) = true := decide_eq_true hlez
                    cases hlv : before S f[i]! f[a]! with
                    | true =>
                      have HI2 := Bx.mk ((scanUp_go (p := upp S f a) hle hlv).symm.trans HI.out)
                      obtain ⟨i5a, hi5a⟩ : ∃ q, q = i := ⟨_, rfl⟩
                      obtain ⟨j5a, hj5a⟩ : ∃ q, q = a := ⟨_, rfl⟩
                      have ea5a : ((i : Int) : Int).toNat = i5a := by omega
                      have pa5a : (0 : Int) ≤ (i : Int) := by omega
                      have ba5a : ((i : Int) : Int) < (N : Int) := by omega
                      have ec5a : ((a : Int) : Int).toNat = j5a := by omega
                      have pc5a : (0 : Int) ≤ (a : Int) := by omega
                      have bc5a : ((a : Int) : Int) < (N : Int) := by omega
                      have la5a := HF.out.cl (i := i) (by omega)
                      have lb5a := HF.out.cl (i := a) (by omega)
                      have hx5a := HF.out.lt (i) (by omega)
                      have hy5a := HF.out.lt (a) (by omega)
                      have hv5a : decide (cfv S f[i]! f[a]! < 0) = true := (cfv_lt S _ _).trans hlv
                      rw [← hi5a] at la5a hx5a hv5a
                      rw [← hj5a] at lb5a hy5a hv5a
                      obtain ⟨x5a, hxx5a⟩ : ∃ q, q = f[i5a]! := ⟨_, rfl⟩
                      obtain ⟨y5a, hyy5a⟩ : ∃ q, q = f[j5a]! := ⟨_, rfl⟩
                      rw [← hxx5a] at la5a hx5a hv5a
                      rw [← hyy5a] at lb5a hy5a hv5a
                      have hc5a := HF.out.cmp hn hx5a hy5a
                      generalize cfv S x5a y5a = v5a at hc5a hv5a
                      clear hx5a hy5a hxx5a hyy5a hi5a hj5a hlv
                      go_wp2_with fail
                      go_quiet_grown (first | (go_at_call 27; exact hc5a _ _))
                      have HS5a := Bx.mk (HF.out.grew (grew_of _ nq osq))
                      generalize grow (World.drewN wr nq) osq = W5a at *
                      clear la5a lb5a hc5a ea5a pa5a ba5a ec5a pc5a bc5a
                      clear HF HI
                      go_wp2
                      go_roundw
                      case rel => first | exact ⟨i + 1, by go_num, by omega, by omega, HS5a, HI2⟩ | ((repeat apply Exists.intro); refine ⟨⟨i + 1, ?_, by omega, by omega, HS5a, HI2⟩, rfl⟩; go_num)
                      case measure => (simp [intOf]) <;> omega
                    | false =>
                      have HI2 := Bx.mk ((scanUp_stop (p := upp S f a) (.inr hlv)).symm.trans HI.out)
                      obtain ⟨i5b, hi5b⟩ : ∃ q, q = i := ⟨_, rfl⟩
                      obtain ⟨j5b, hj5b⟩ : ∃ q, q = a := ⟨_, rfl⟩
                      have ea5b : ((i : Int) : Int).toNat = i5b := by omega
                      have pa5b : (0 : Int) ≤ (i : Int) := by omega
                      have ba5b : ((i : Int) : Int) < (N : Int) := by omega
                      have ec5b : ((a : Int) : Int).toNat = j5b := by omega
                      have pc5b : (0 : Int) ≤ (a : Int) := by omega
                      have bc5b : ((a : Int) : Int) < (N : Int) := by omega
                      have la5b := HF.out.cl (i := i) (by omega)
                      have lb5b := HF.out.cl (i := a) (by omega)
                      have hx5b := HF.out.lt (i) (by omega)
                      have hy5b := HF.out.lt (a) (by omega)
                      have hv5b : decide (cfv S f[i]! f[a]! < 0) = false := (cfv_lt S _ _).trans hlv
                      rw [← hi5b] at la5b hx5b hv5b
                      rw [← hj5b] at lb5b hy5b hv5b
                      obtain ⟨x5b, hxx5b⟩ : ∃ q, q = f[i5b]! := ⟨_, rfl⟩
                      obtain ⟨y5b, hyy5b⟩ : ∃ q, q = f[j5b]! := ⟨_, rfl⟩
                      rw [← hxx5b] at la5b hx5b hv5b
                      rw [← hyy5b] at lb5b hy5b hv5b
                      have hc5b := HF.out.cmp hn hx5b hy5b
                      generalize cfv S x5b y5b = v5b at hc5b hv5b
                      clear hx5b hy5b hxx5b hyy5b hi5b hj5b hlv
                      go_wp2_with fail
                      go_quiet_grown (first | (go_at_call 27; exact hc5b _ _))
                      have HS5b := Bx.mk (HF.out.grew (grew_of _ nq osq))
                      generalize grow (World.drewN wr nq) osq = W5b at *
                      clear la5b lb5b hc5b ea5b pa5b ba5b ec5b pc5b bc5b
                      clear HF HI
                      go_wp2
                      go_meet
                      obtain ⟨hI2⟩ := HI2
                      subst hI2
                      exact ⟨rfl, hi1, by omega, HS5b⟩
                  · have hlez : (jj : Int) < (i : Int) := by omega
                    have hled : decide ((i : Int) ≤ (jj : Int)) = false := decide_eq_false (by omega)
                    have HI2 := Bx.mk ((scanUp_stop (p := upp S f a) (.inl (Nat.lt_of_not_le hle))).symm.trans HI.out)
                    clear HI
                    go_wp2_with fail
                    go_region
                    have HS5c := Bx.mk HF.out.drew
                    generalize wr.drew = W5c at *
                    clear HF hle
                    go_wp2
                    go_meet
                    obtain ⟨hI2⟩ := HI2
                    subst hI2
                    exact ⟨rfl, hi1, by omega, HS5c⟩
              case rest =>
                obtain ⟨rfl, hl5, hm5, HU5⟩ := hcut
                clear HF0
                go_upto_block 8 with fail
                obtain ⟨J6, hJ6⟩ : ∃ q, scanDown (dnn S f a) f I5 jj = q := ⟨_, rfl⟩
                have HJ6 := Bx.mk hJ6
                clear hJ6
                go_cut [13] (fun s13 wx => s13 = .int .i64 (J6 : Int) ∧ a ≤ J6 ∧ J6 ≤ jj ∧ Bx (SS w0 g sb S n f wx))
                case first =>
                  go_wp2_with fail
                  go_loopw [13] (fun s13 wr => ∃ j : Nat, s13 = .int .i64 (j : Int) ∧ a ≤ j ∧ j ≤ jj ∧ Bx (SS w0 g sb S n f wr) ∧ Bx (scanDown (dnn S f a) f I5 j = J6)) (fun s13 _ => (intOf s13).toNat)
                  case atStart => exact ⟨jj, by go_num, by omega, Nat.le_refl _, HU5, HJ6⟩
                  case round =>
                    clear HU5 HJ6
                    obtain ⟨j, rfl, hj1, hj2, HF, HJ⟩ := hrel
                    by_cases hle : I5 ≤ j
                    · obtain ⟨jp, rfl⟩ : ∃ jp, j = jp + 1 := ⟨j - 1, by omega⟩
                      have hlez : (I5 : Int) ≤ (jp : Int) + 1 := by omega
                      have hled : decide ((I5 : Int) ≤ (jp : Int) + 1) = true := decide_eq_true hlez
                      have hr1 : IntKind.i64.wrap ((jp : Int) + 1) = (jp : Int) + 1 := by rw [IntKind.wrap_i64]; omega
                      cases hlv : before S f[jp + 1]! f[a]! with
                      | true =>
                        have HJ2 := Bx.mk ((scanDown_stop (p := dnn S f a) (.inr (by unfold dnn; rw [hlv]; rfl))).symm.trans HJ.out)
                        obtain ⟨i6a, hi6a⟩ : ∃ q, q = jp + 1 := ⟨_, rfl⟩
                        obtain ⟨j6a, hj6a⟩ : ∃ q, q = a := ⟨_, rfl⟩
                        have ea6a : ((jp : Int) + 1 : Int).toNat = i6a := by omega
                        have pa6a : (0 : Int) ≤ (jp : Int) + 1 := by omega
                        have ba6a : ((jp : Int) + 1 : Int) < (N : Int) := by omega
                        have ec6a : ((a : Int) : Int).toNat = j6a := by omega
                        have pc6a : (0 : Int) ≤ (a : Int) := by omega
                        have bc6a : ((a : Int) : Int) < (N : Int) := by omega
                        have la6a := HF.out.cl (i := jp + 1) (by omega)
                        have lb6a := HF.out.cl (i := a) (by omega)
                        have hx6a := HF.out.lt (jp + 1) (by omega)
                        have hy6a := HF.out.lt (a) (by omega)
                        have hv6a : decide (cfv S f[jp + 1]! f[a]! < 0) = true := (cfv_lt S _ _).trans hlv
                        rw [← hi6a] at la6a hx6a hv6a
                        rw [← hj6a] at lb6a hy6a hv6a
                        obtain ⟨x6a, hxx6a⟩ : ∃ q, q = f[i6a]! := ⟨_, rfl⟩
                        obtain ⟨y6a, hyy6a⟩ : ∃ q, q = f[j6a]! := ⟨_, rfl⟩
                        rw [← hxx6a] at la6a hx6a hv6a
                        rw [← hyy6a] at lb6a hy6a hv6a
                        have hc6a := HF.out.cmp hn hx6a hy6a
                        generalize cfv S x6a y6a = v6a at hc6a hv6a
                        clear hx6a hy6a hxx6a hyy6a hi6a hj6a hlv
                        go_wp2_with fail
                        go_quiet_grown (first | (go_at_call 27; exact hc6a _ _))
                        have HS6a := Bx.mk (HF.out.grew (grew_of _ nq osq))
                        generalize grow (World.drewN wr nq) osq = W6a at *
                        clear la6a lb6a hc6a ea6a pa6a ba6a ec6a pc6a bc6a
                        clear HF HJ
                        go_wp2
                        go_meet
                        obtain ⟨hJ2⟩ := HJ2
                        subst hJ2
                        exact ⟨by go_num, hj1, by omega, HS6a⟩
                      | false =>
                        have HJ2 := Bx.mk ((scanDown_go (p := dnn S f a) hle (by unfold dnn; rw [hlv]; rfl)).symm.trans HJ.out)
                        obtain ⟨i6b, hi6b⟩ : ∃ q, q = jp + 1 := ⟨_, rfl⟩
                        obtain ⟨j6b, hj6b⟩ : ∃ q, q = a := ⟨_, rfl⟩
                        have ea6b : ((jp : Int) + 1 : Int).toNat = i6b := by omega
                        have pa6b : (0 : Int) ≤ (jp : Int) + 1 := by omega
                        have ba6b : ((jp : Int) + 1 : Int) < (N : Int) := by omega
                        have ec6b : ((a : Int) : Int).toNat = j6b := by omega
                        have pc6b : (0 : Int) ≤ (a : Int) := by omega
                        have bc6b : ((a : Int) : Int) < (N : Int) := by omega
                        have la6b := HF.out.cl (i := jp + 1) (by omega)
                        have lb6b := HF.out.cl (i := a) (by omega)
                        have hx6b := HF.out.lt (jp + 1) (by omega)
                        have hy6b := HF.out.lt (a) (by omega)
                        have hv6b : decide (cfv S f[jp + 1]! f[a]! < 0) = false := (cfv_lt S _ _).trans hlv
                        rw [← hi6b] at la6b hx6b hv6b
                        rw [← hj6b] at lb6b hy6b hv6b
                        obtain ⟨x6b, hxx6b⟩ : ∃ q, q = f[i6b]! := ⟨_, rfl⟩
                        obtain ⟨y6b, hyy6b⟩ : ∃ q, q = f[j6b]! := ⟨_, rfl⟩
                        rw [← hxx6b] at la6b hx6b hv6b
                        rw [← hyy6b] at lb6b hy6b hv6b
                        have hc6b := HF.out.cmp hn hx6b hy6b
                        generalize cfv S x6b y6b = v6b at hc6b hv6b
                        clear hx6b hy6b hxx6b hyy6b hi6b hj6b hlv
                        go_wp2_with fail
                        go_quiet_grown (first | (go_at_call 27; exact hc6b _ _))
                        have HS6b := Bx.mk (HF.out.grew (grew_of _ nq osq))
                        generalize grow (World.drewN wr nq) osq = W6b at *
                        clear la6b lb6b hc6b ea6b pa6b ba6b ec6b pc6b bc6b
                        clear HF HJ
                        go_wp2
                        go_roundw
                        case rel => first | exact ⟨jp, by go_num, by omega, by omega, HS6b, HJ2⟩ | ((repeat apply Exists.intro); refine ⟨⟨jp, ?_, by omega, by omega, HS6b, HJ2⟩, rfl⟩; go_num)
                        case measure => (simp [intOf]) <;> omega
                    · have hlez : (j : Int) < (I5 : Int) := by omega
                      have hled : decide ((I5 : Int) ≤ (j : Int)) = false := decide_eq_false (by omega)
                      have HJ2 := Bx.mk ((scanDown_stop (p := dnn S f a) (.inl (Nat.lt_of_not_le hle))).symm.trans HJ.out)
                      clear HJ
                      go_wp2_with fail
                      go_region
                      have HS6c := Bx.mk HF.out.drew
                      generalize wr.drew = W6c at *
                      clear HF hle
                      go_wp2
                      go_meet
                      obtain ⟨hJ2⟩ := HJ2
                      subst hJ2
                      exact ⟨rfl, hj1, by omega, HS6c⟩
                case rest =>
                  obtain ⟨rfl, hl6, hm6, HU6⟩ := hcut
                  clear HU5
                  have hP := (partLoop_eq S a ii jj f HI5.out HJ6.out).symm.trans HQ.out
                  clear HQ HI5 HJ6
                  by_cases hgt : J6 < I5
                  · have hgtz : (J6 : Int) < (I5 : Int) := by omega
                    rw [if_pos hgt] at hP
                    have hR := HR4.out
                    rw [← hP] at hR
                    have HR5 := Bx.mk hR
                    clear hR hP hgt HR4
                    have hSF := HU6.out
                    obtain ⟨i7, hi7⟩ : ∃ q, q = J6 := ⟨_, rfl⟩
                    obtain ⟨j7, hj7⟩ : ∃ q, q = a := ⟨_, rfl⟩
                    have ea7 : ((J6 : Int) : Int).toNat = i7 := by omega
                    have pa7 : (0 : Int) ≤ (J6 : Int) := by omega
                    have ba7 : ((J6 : Int) : Int) < (N : Int) := by omega
                    have ec7 : ((a : Int) : Int).toNat = j7 := by omega
                    have pc7 : (0 : Int) ≤ (a : Int) := by omega
                    have bc7 : ((a : Int) : Int) < (N : Int) := by omega
                    have la7 := hSF.cell (i := J6) (by omega)
                    have lb7 := hSF.cell (i := a) (by omega)
                    have fa7 := hSF.live (J6)
                    have fb7 := hSF.live (a)
                    have HZ7 := Bx.mk (hSF.swap (i := J6) (j := a) (by omega) (by omega)).drew
                    obtain ⟨u7, hu7⟩ := hSF.cell2 (i := J6) (j := a) (by omega) (by omega) (.int .i64 (f[a]! : Int))
                    obtain ⟨e7, he7⟩ : ∃ q, swp f (J6) (a) = q := ⟨_, rfl⟩
                    have hsz7 : e7.size = f.size := by rw [← he7]; exact swp_sz _ _ _
                    rw [he7] at HZ7
                    rw [← hi7] at la7 fa7 HZ7 hu7
                    rw [← hj7] at lb7 fb7 HZ7 hu7
                    obtain ⟨x7, hx7⟩ : ∃ q, q = (f[i7]! : Int) := ⟨_, rfl⟩
                    obtain ⟨y7, hy7⟩ : ∃ q, q = (f[j7]! : Int) := ⟨_, rfl⟩
                    rw [← hx7] at la7 HZ7
                    rw [← hy7] at lb7 HZ7 hu7
                    clear hx7 hy7 hi7 hj7
                    have HE7 := Bx.mk he7
                    clear he7
                    go_wp2_with fail
                    go_region
                    all_goals generalize (World.setCell (World.setCell wc ⟨g, i7, none⟩ (.int .i64 y7)) ⟨g, j7, none⟩ (.int .i64 x7)).drew = Wz7 at *
                    all_goals clear ea7 pa7 ba7 ec7 pc7 bc7 la7 lb7 fa7 fb7 hu7
                    clear hSF HU6
                    all_goals
                      go_wp2
                      go_ret2
                      exact ⟨by rw [← HR5.out]; rfl, by rw [← HR5.out]; rw [← HE7.out] at HZ7; exact HZ7.out⟩
                  · have hgtz : (I5 : Int) ≤ (J6 : Int) := by omega
                    rw [if_neg hgt, if_pos (by omega)] at hP
                    have HP := Bx.mk hP
                    clear hP hgt
                    obtain ⟨J8, rfl⟩ : ∃ J, J6 = J + 1 := ⟨J6 - 1, by omega⟩
                    have hr8 : IntKind.i64.wrap ((J8 : Int) + 1) = (J8 : Int) + 1 := by rw [IntKind.wrap_i64]; omega
                    have hSF := HU6.out
                    obtain ⟨i8, hi8⟩ : ∃ q, q = I5 := ⟨_, rfl⟩
                    obtain ⟨j8, hj8⟩ : ∃ q, q = J8 + 1 := ⟨_, rfl⟩
                    have ea8 : ((I5 : Int) : Int).toNat = i8 := by omega
                    have pa8 : (0 : Int) ≤ (I5 : Int) := by omega
                    have ba8 : ((I5 : Int) : Int) < (N : Int) := by omega
                    have ec8 : ((J8 : Int) + 1 : Int).toNat = j8 := by omega
                    have pc8 : (0 : Int) ≤ (J8 : Int) + 1 := by omega
                    have bc8 : ((J8 : Int) + 1 : Int) < (N : Int) := by omega
                    have la8 := hSF.cell (i := I5) (by omega)
                    have lb8 := hSF.cell (i := J8 + 1) (by omega)
                    have fa8 := hSF.live (I5)
                    have fb8 := hSF.live (J8 + 1)
                    have HZ8 := Bx.mk (hSF.swap (i := I5) (j := J8 + 1) (by omega) (by omega)).drew
                    obtain ⟨u8, hu8⟩ := hSF.cell2 (i := I5) (j := J8 + 1) (by omega) (by omega) (.int .i64 (f[J8 + 1]! : Int))
                    obtain ⟨e8, he8⟩ : ∃ q, swp f (I5) (J8 + 1) = q := ⟨_, rfl⟩
                    have hsz8 : e8.size = f.size := by rw [← he8]; exact swp_sz _ _ _
                    rw [he8] at HZ8
                    rw [← hi8] at la8 fa8 HZ8 hu8
                    rw [← hj8] at lb8 fb8 HZ8 hu8
                    obtain ⟨x8, hx8⟩ : ∃ q, q = (f[i8]! : Int) := ⟨_, rfl⟩
                    obtain ⟨y8, hy8⟩ : ∃ q, q = (f[j8]! : Int) := ⟨_, rfl⟩
                    rw [← hx8] at la8 HZ8
                    rw [← hy8] at lb8 HZ8 hu8
                    clear hx8 hy8 hi8 hj8
                    have HE8 := Bx.mk he8
                    clear he8
                    go_wp2_with fail
                    go_region
                    all_goals generalize (World.setCell (World.setCell wc ⟨g, i8, none⟩ (.int .i64 y8)) ⟨g, j8, none⟩ (.int .i64 x8)).drew = Wz8 at *
                    all_goals clear ea8 pa8 ba8 ec8 pc8 bc8 la8 lb8 fa8 fb8 hu8
                    clear hSF HU6
                    all_goals
                      have hse8 : e8.size = N := by omega
                      have hP8 := HP.out
                      rw [show J8 + 1 - 1 = J8 by omega, HE8.out] at hP8
                      have HP8 := Bx.mk hP8
                      clear HP hP8 HE8 hsz8
                      go_wp2
                      go_roundw
                      case rel => exact ⟨I5 + 1, J8, e8, by go_num, by go_num, by omega, by omega, by omega, by omega, hse8, HZ8, HP8⟩
                      case measure => (simp [intOf]) <;> omega
end Go.Proofs.Ytimlcjdpnhhjdaa.rk
