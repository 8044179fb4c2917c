/-
  Given for the seat's laws: the contract of the sort of a short row. No condition but those of the theorems.
-/
import Derived.Test.YtimlcjdpnhhjdaaRIns
import Derived.Test.YtimlcjdpnhhjdaaRPiv
import Derived.Test.YtimlcjdpnhhjdaaRPIns
import Derived.Test.YtimlcjdpnhhjdaaRPart
import Derived.Test.YtimlcjdpnhhjdaaRBrk
import Derived.Test.YtimlcjdpnhhjdaaRPq
namespace Go.Proofs.Ytimlcjdpnhhjdaa.rk
open Go.RowKit mem sp
open Go.Sort (grow swp PermIn SortedIn insertionSort)
set_option linter.unusedVariables false

theorem part_b {w0 W : World} {g sb n N a b pv : Nat} {S : Nat → Sc} {d : Array Nat} (hs : SS w0 g sb S n d W) (hN : d.size = N) (hab : a + 1 < b) (hb : b ≤ N) (hp1 : a ≤ pv) (hp2 : pv < b) (hn : n ≤ 1000) (hN2 : N ≤ 1000) :
    Calls Try.prog 48 #[.slice (some ⟨g, 0, none⟩) N N, .int .i64 (a : Int), .int .i64 (b : Int), .int .i64 (pv : Int), fv sb n] W (PartTo w0 g sb S n (Go.Sort.partition (before S) d a b pv)) := by
  obtain ⟨bp, rfl⟩ : ∃ bp, b = bp + 1 := ⟨b - 1, by omega⟩
  rw [show ((bp + 1 : Nat) : Int) = (bp : Int) + 1 by omega]
  exact part_any hs hN (by omega) hb hp1 (by omega) hn hN2
theorem SS.sbl {w0 W : World} {g sb n : Nat} {S : Nat → Sc} {d : Array Nat} (h : SS w0 g sb S n d W) (hsb : sb < w0.heap.size) : sb < W.heap.size := Nat.lt_of_lt_of_le hsb h.keep.size

def PdqTo (w0 : World) (g sb : Nat) (S : Nat → Sc) (n : Nat) (d : Array Nat) (a b : Nat) (e : Ending) (w' : World) : Prop :=
  ∃ f : Array Nat, e = .returned (.tuple #[]) ∧ PermIn a b d f ∧ SortedIn (before S) a b f ∧ SS w0 g sb S n f w'

set_option maxHeartbeats 2500000 in
set_option maxRecDepth 100000 in
theorem pdq_any {w0 : World} {g sb n N : Nat} {S : Nat → Sc} (hsb : sb < w0.heap.size) (hn : n ≤ 1000) (hN : N ≤ 16) : ∀ (m : Nat) (W : World) (a b l : Nat) (d : Array Nat), b - a = m → SS w0 g sb S n d W → d.size = N → a ≤ b → b ≤ N → b < a + 12 + l → l ≤ 100 → d.toList.Nodup →
    (a = 0 ∨ ∀ i, a ≤ i → i < b → before S d[a - 1]! d[i]! = true) →
    Calls Try.prog 32 #[.slice (some ⟨g, 0, none⟩) N N, .int .i64 (a : Int), .int .i64 (b : Int), .int .i64 (l : Int), fv sb n] W (PdqTo w0 g sb S n d a b) := by
  have hmix : Try.prog.follows .mixedOrders = true := by kernel_rfl
  intro m
  induction m using Nat.strongRecOn with
  | ind m IH =>
  intro W a b l d hm hs hsz hab hb hbl hl hnd hbd
  have HS0 := Bx.mk hs
  have HQ0 := Bx.mk (PQ.start (S := S) (by omega) hab hnd hbd)
  have HIH : Bx (∀ (W : World) (a' b' l : Nat) (d : Array Nat), b' - a' < b - a → SS w0 g sb S n d W → d.size = N → a' ≤ b' → b' ≤ N → b' < a' + 12 + l → l ≤ 100 → d.toList.Nodup → (a' = 0 ∨ ∀ i, a' ≤ i → i < b' → before S d[a' - 1]! d[i]! = true) →
    Calls Try.prog 32 #[.slice (some ⟨g, 0, none⟩) N N, .int .i64 (a' : Int), .int .i64 (b' : Int), .int .i64 (l : Int), fv sb n] W (PdqTo w0 g sb S n d a' b')) := ⟨fun W a' b' l d h => IH (b' - a') (by omega) W a' b' l d rfl⟩
  have HSZ := Bx.mk hsz
  clear IH hm hs hnd hbd hsz
  go_enter Try.func32, Try.ntmps32
  go_wp2
  go_loopw [1, 2, 3, 10, 11] (fun s1 s2 s3 s10 s11 wr => ∃ (a1 b1 l1 : Nat) (wb wp : Bool) (f : Array Nat), s1 = .int .i64 (a1 : Int) ∧ s2 = .int .i64 (b1 : Int) ∧ s3 = .int .i64 (l1 : Int) ∧ s10 = .bool wb ∧ s11 = .bool wp ∧ f.size = N ∧ b1 < a1 + 12 + l1 ∧ l1 ≤ 100 ∧ Bx (SS w0 g sb S n f wr) ∧ Bx (PQ S d a b f a1 b1)) (fun s1 s2 _ _ _ _ => (intOf s2).toNat - (intOf s1).toNat)
  case atStart => exact ⟨a, b, l, true, true, d, rfl, rfl, rfl, rfl, rfl, HSZ.out, hbl, hl, HS0, HQ0⟩
  case round =>
    clear HS0 HQ0 hbl hl
    obtain ⟨a1, b1, l1, wb, wp, f, rfl, rfl, rfl, rfl, rfl, hsf, hbl, hl, HF, HQ⟩ := hrel
    obtain ⟨hle1, hle2, hle3⟩ := HQ.out.le
    obtain ⟨L, hL⟩ : ∃ L, b1 = a1 + L := ⟨b1 - a1, by omega⟩
    have hLz : (b1 : Int) - (a1 : Int) = (L : Int) := by omega
    by_cases h12 : L ≤ 12
    · have h12z : (L : Int) ≤ 12 := by omega
      have HI := Bx.mk (ins_any HF.out hsf hle2 (show b1 ≤ N by omega) hn (by omega))
      have HD := Bx.mk (Go.Sort.insertionSort_holds (swo S) f a1 b1 hle2 (by omega))
      clear hL h12
      go_wp2_with fail
      refine HI.out.mono ?_
      rintro e w2 ⟨rfl, hs2⟩
      have HS2 := Bx.mk hs2
      clear hs2 HF HI
      go_wp2
      refine bodyPost_ret (results_none rfl _ _ _) rfl ?_
      exact ⟨_, rfl, (HQ.out.done HD.out.1 HD.out.2).1, (HQ.out.done HD.out.1 HD.out.2).2, HS2.out⟩
    · have h12z : (12 : Int) < (L : Int) := by omega
      have l0 : ((l1 : Int) == 0) = false := beq_eq_false_iff_ne.2 (by omega)
      have HLL := Bx.mk hL
      have hL13 : 13 ≤ L := by omega
      have hL16 : L ≤ 16 := by omega
      have hl1 : 1 ≤ l1 := by omega
      have hlo : a1 + 13 ≤ b1 := by omega
      have hhi : b1 ≤ a1 + 16 := by omega
      have hl2 : 2 ≤ l1 := by omega
      clear h12 hL
      go_upto_if 39 with fail
      go_cut [3] (fun s3 wx => ∃ (f1 : Array Nat) (l2 : Nat), s3 = .int .i64 (l2 : Int) ∧ b1 ≤ a1 + 12 + l2 ∧ l2 ≤ 100 ∧ f1.size = N ∧ Bx (SS w0 g sb S n f1 wx) ∧ Bx (PQ S d a b f1 a1 b1))
      case first =>
        cases wb with
        | true =>
          go_wp2
          go_meet
          exact ⟨f, l1, rfl, by omega, hl, hsf, HF, HQ⟩
        | false =>
          have HB := Bx.mk (brk_any HF.out (HF.out.sbl hsb) hsf HLL.out hL13 hL16 (show b1 ≤ N by omega) hn (by omega))
          obtain ⟨lp, rfl⟩ : ∃ lp, l1 = lp + 1 := ⟨l1 - 1, by omega⟩
          go_wp2_with fail
          refine HB.out.mono ?_
          rintro e w2 ⟨f1, rfl, hp1, hs1⟩
          have HS1 := Bx.mk hs1
          have HP1 := Bx.mk hp1
          clear hs1 hp1 HB HF
          go_wp2
          go_meet
          exact ⟨f1, lp, by go_num, by omega, by omega, by rw [HP1.out.1]; exact hsf, HS1, ⟨HQ.out.perm HP1.out⟩⟩
      case rest =>
        clear HF HQ hsf hbl hl l0 hl1 hl2
        obtain ⟨f1, l2, rfl, hbl, hl, hsf, HF, HQ⟩ := hcut
        have HC := Bx.mk (chs_any HF.out (HF.out.sbl hsb) hsf (show a1 + 8 ≤ b1 by omega) (show b1 < a1 + 50 by omega) (show b1 ≤ N by omega) hn (by omega))
        clear HF
        go_wp2_with fail
        refine HC.out.mono ?_
        rintro e w2 ⟨p, q, rfl, hp1, hp2, hq, hs2⟩
        have HS2 := Bx.mk hs2
        have hq2 : ((q : Int) == 2) = false := beq_eq_false_iff_ne.2 (by omega)
        clear hs2 HC
        go_upto_region 15 with fail
        go_cut [75] (fun s75 wx => ∃ t : Bool, s75 = .bool t ∧ Bx (SS w0 g sb S n f1 wx))
        case first =>
          cases wb <;> cases wp
          all_goals
            go_wp2
            go_meet
            exact ⟨_, rfl, HS2⟩
        case rest =>
          obtain ⟨t, rfl, HS3⟩ := hcut
          clear HS2 hq2
          go_upto_if 75 with fail
          go_cut [13] (fun s13 wx => s13 = .int .i64 (p : Int) ∧ Bx (SS w0 g sb S n f1 wx))
          case first =>
            cases t with
            | false =>
              go_wp2
              go_meet
              exact ⟨rfl, HS3⟩
            | true =>
              have HPI := Bx.mk (pins_any HS3.out hsf (show a1 + 8 ≤ b1 by omega) (show b1 < a1 + 50 by omega) (show b1 ≤ N by omega) hn (by omega))
              go_wp2_with fail
              refine HPI.out.mono ?_
              rintro e w4 ⟨r, rfl, hr, hs4⟩
              have HS4 := Bx.mk hs4
              have HR := Bx.mk hr
              clear hs4 hr HPI HS3
              cases r with
              | false =>
                go_wp2
                go_meet
                exact ⟨rfl, HS4⟩
              | true =>
                go_wp2
                refine bodyPost_ret (results_none rfl _ _ _) rfl ?_
                exact ⟨_, rfl, (HQ.out.done (Go.Sort.permIn_refl _ _ _) (HR.out (by trivial))).1, (HQ.out.done (Go.Sort.permIn_refl _ _ _) (HR.out (by trivial))).2, HS4.out⟩
          case rest =>
            obtain ⟨rfl, HS4⟩ := hcut
            clear HS3
            go_upto_region 17 with fail
            go_cut [97] (fun s97 wx => s97 = .bool false ∧ Bx (SS w0 g sb S n f1 wx))
            case first =>
              by_cases h0 : 0 < a1
              · obtain ⟨ap, hap⟩ : ∃ ap, ap + 1 = a1 := ⟨a1 - 1, by omega⟩
                have hapz : (a1 : Int) - 1 = (ap : Int) := by omega
                have hapw : IntKind.i64.wrap (ap : Int) = (ap : Int) := by rw [IntKind.wrap_i64]; omega
                have h0z : (0 : Int) < (a1 : Int) := by omega
                have h0d : decide ((a1 : Int) > 0) = true := decide_eq_true h0z
                have h0n : decide (0 < a1) = true := decide_eq_true h0
                have hlv : before S f1[ap]! f1[p]! = true := by have := HQ.out.look h0 hp1 hp2; rw [← hap] at this; simpa using this
                have hapN : ap < N := by omega
                clear hap
                obtain ⟨i1, hi1⟩ : ∃ q, q = ap := ⟨_, rfl⟩
                obtain ⟨j1, hj1⟩ : ∃ q, q = p := ⟨_, rfl⟩
                have ea1 : ((ap : Int) : Int).toNat = i1 := by omega
                have pa1 : (0 : Int) ≤ (ap : Int) := by omega
                have ba1 : ((ap : Int) : Int) < (N : Int) := by omega
                have ec1 : ((p : Int) : Int).toNat = j1 := by omega
                have pc1 : (0 : Int) ≤ (p : Int) := by omega
                have bc1 : ((p : Int) : Int) < (N : Int) := by omega
                have la1 := HS4.out.cl (i := ap) (by omega)
                have lb1 := HS4.out.cl (i := p) (by omega)
                have hx1 := HS4.out.lt (ap) (by omega)
                have hy1 := HS4.out.lt (p) (by omega)
                have hv1 : decide (cfv S f1[ap]! f1[p]! < 0) = true := (cfv_lt S _ _).trans hlv
                rw [← hi1] at la1 hx1 hv1
                rw [← hj1] at lb1 hy1 hv1
                obtain ⟨x1, hxx1⟩ : ∃ q, q = f1[i1]! := ⟨_, rfl⟩
                obtain ⟨y1, hyy1⟩ : ∃ q, q = f1[j1]! := ⟨_, rfl⟩
                rw [← hxx1] at la1 hx1 hv1
                rw [← hyy1] at lb1 hy1 hv1
                have hc1 := HS4.out.cmp hn hx1 hy1
                generalize cfv S x1 y1 = v1 at hc1 hv1
                clear hx1 hy1 hxx1 hyy1 hi1 hj1 hlv
                go_wp2_with fail
                go_quiet_grown (first | (go_at_call 27; exact hc1 _ _))
                have HS1 := Bx.mk (HS4.out.grew (grew_of _ nq osq))
                generalize grow (World.drewN wc nq) osq = W1 at *
                clear la1 lb1 hc1 ea1 pa1 ba1 ec1 pc1 bc1
                clear HS4
                go_wp2
                go_meet
                exact ⟨rfl, HS1⟩
              · have h0z : (a1 : Int) ≤ 0 := by omega
                have h0d : decide ((a1 : Int) > 0) = false := decide_eq_false (by omega)
                have h0n : decide (0 < a1) = false := decide_eq_false (by omega)
                clear h0
                go_wp2_with fail
                go_region
                have HS5 := Bx.mk HS4.out.drew
                generalize wc.drew = W5 at *
                clear HS4
                go_wp2
                go_meet
                exact ⟨rfl, HS5⟩
            case rest =>
              obtain ⟨rfl, HS5⟩ := hcut
              clear HS4
              have hpar := Go.Sort.partition_holds (before S) (swo S) f1 a1 b1 p hp1 hp2 (by omega)
              have HP := part_b HS5.out hsf (show a1 + 1 < b1 by omega) (show b1 ≤ N by omega) hp1 hp2 hn (by omega)
              obtain ⟨⟨mid, alp, f3⟩, hR⟩ : ∃ R, Go.Sort.partition (before S) f1 a1 b1 p = R := ⟨_, rfl⟩
              rw [hR] at hpar HP
              obtain ⟨hm1, hm2, hpm, hml, hmr⟩ := hpar
              dsimp only at hm1 hm2 hpm hml hmr
              have hc : Cut S a1 b1 mid f3 := ⟨⟨hm1, hm2⟩, hml, hmr⟩
              have HC := Bx.mk hc
              have HQ3 := Bx.mk (HQ.out.perm hpm)
              have hsf3 : f3.size = N := by rw [hpm.1]; exact hsf
              have HPP := Bx.mk HP
              unfold PartTo at HPP
              dsimp only at HPP
              clear HP hR hpm hml hmr hc HS5 HQ hsf
              obtain ⟨ll, hll⟩ : ∃ ll, ll + a1 = mid := ⟨mid - a1, by omega⟩
              obtain ⟨rl, hrl⟩ : ∃ rl, rl + mid = b1 := ⟨b1 - mid, by omega⟩
              have hllz : (mid : Int) - (a1 : Int) = (ll : Int) := by omega
              have hrlz : (b1 : Int) - (mid : Int) = (rl : Int) := by omega
              have hLL := HLL.out
              obtain ⟨t8, ht8⟩ : ∃ t8, t8 = L / 8 := ⟨_, rfl⟩
              have ht8z : (L : Int) / 8 = (t8 : Int) := by omega
              have HLR := Bx.mk (And.intro hll hrl)
              clear ht8 hll hrl hLL
              by_cases hlr : ll < rl
              · have hlrz : (ll : Int) < (rl : Int) := by omega
                go_wp2_with fail
                refine HPP.out.mono ?_
                rintro e w6 ⟨rfl, hs6⟩
                have HR6 := Bx.mk (HIH.out w6 a1 mid l2 f3 (by omega) hs6 hsf3 hm1 (by omega) (by omega) hl HQ3.out.nd (HQ3.out.leftBl ⟨hm1, hm2⟩))
                clear hs6 HPP
                go_wp2_with fail
                refine HR6.out.mono ?_
                rintro e w7 ⟨f4, rfl, hp4, ho4, hs7⟩
                have HS7 := Bx.mk hs7
                have HQ4 := Bx.mk (HQ3.out.goRight HC.out hp4 ho4)
                have hsf4 : f4.size = N := by rw [hp4.1]; exact hsf3
                clear hs7 hp4 ho4 HR6
                go_wp2
                go_roundw
                case rel => exact ⟨mid + 1, b1, l2, _, _, f4, by go_num, rfl, rfl, rfl, rfl, hsf4, by omega, hl, HS7, HQ4⟩
                case measure => (simp [intOf]) <;> omega
              · have hlrz : (rl : Int) ≤ (ll : Int) := by omega
                have hrm : IntKind.i64.wrap ((mid : Int) + 1) = (mid : Int) + 1 := by rw [IntKind.wrap_i64]; omega
                go_wp2_with fail
                refine HPP.out.mono ?_
                rintro e w6 ⟨rfl, hs6⟩
                have HR6 := Bx.mk (HIH.out w6 (mid + 1) b1 l2 f3 (by omega) hs6 hsf3 (by omega) (by omega) (by omega) hl HQ3.out.nd (HQ3.out.rightBl HC.out))
                rw [show ((mid + 1 : Nat) : Int) = (mid : Int) + 1 by omega] at HR6
                clear hs6 HPP
                go_wp2_with fail
                refine HR6.out.mono ?_
                rintro e w7 ⟨f4, rfl, hp4, ho4, hs7⟩
                have HS7 := Bx.mk hs7
                have HQ4 := Bx.mk (HQ3.out.goLeft HC.out hp4 ho4)
                have hsf4 : f4.size = N := by rw [hp4.1]; exact hsf3
                clear hs7 hp4 ho4 HR6
                go_wp2
                go_roundw
                case rel => exact ⟨a1, mid, l2, _, _, f4, rfl, rfl, rfl, rfl, rfl, hsf4, by omega, hl, HS7, HQ4⟩
                case measure => (simp [intOf]) <;> omega
end Go.Proofs.Ytimlcjdpnhhjdaa.rk
