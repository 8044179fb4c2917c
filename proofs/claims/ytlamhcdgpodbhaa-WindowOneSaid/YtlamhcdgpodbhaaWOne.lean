/-
  Given for the seat's laws: the law WindowOne answers true over whatever memory. No condition but those of the theorems.
-/
import Derived.Test.YtlamhcdgpodbhaaWAdded
namespace Go.Proofs.Ytlamhcdgpodbhaa.wn
open Go.RowKit mem
set_option linter.unusedVariables false

set_option maxHeartbeats 4000000 in
set_option maxRecDepth 100000 in
theorem one_any {w : World} (x : Nat) (hx : x < 65536) {A A2 : Option Addr} {n c n2 c2 : Nat} {a l : Out} (hn : a.length = n) (ha : Bools w A a) (hn2 : l.length = n2) (hl : Bools w A2 l) : Calls Try.prog 5 #[.int .u16 (x : Int), .slice A n c, .slice A2 n2 c2] w (True_ w) := by
  have HAW := Bx.mk (awake_any w)
  unfold True_ at HAW
  by_cases h300 : n ≤ 300 ∧ n2 ≤ 300
  · obtain ⟨h1, h2⟩ := h300
    have h1i : (n : Int) ≤ 300 := by omega
    have h2i : (n2 : Int) ≤ 300 := by omega
    have HMAY := Bx.mk (fun W => may_any x hx W)
    have HLI := Bx.mk (fun W => list_any x hx W)
    have hk8 := hk_le x
    rw [← lst_len x] at hk8
    have HA1 : Bx (∀ W, Below w.heap.size w W → Calls Try.prog 16 #[.int .u16 (x : Int), .slice A n c] W (Pure (.int .u16 (adds x a : Int)) W)) := ⟨fun W hW => added_any x hx hn (Bools.below' ha hW) (by omega)⟩
    have HA2 : Bx (∀ W, Below w.heap.size w W → Calls Try.prog 16 #[.int .u16 (adds x a : Int), .slice A2 n2 c2] W (Pure (.int .u16 (adds (adds x a) l : Int)) W)) := ⟨fun W hW => added_any _ (adds_lt _ _ hx) hn2 (Bools.below' hl hW) (by omega)⟩
    have HA3 : Bx (∀ W, Below w.heap.size w W → Calls Try.prog 16 #[.int .u16 0, .slice A2 n2 c2] W (Pure (.int .u16 (adds 0 l : Int)) W)) := ⟨fun W hW => added_any 0 (by omega) hn2 (Bools.below' hl hW) (by omega)⟩
    have HADD : 8 ≤ n2 → adds (adds x a) l = adds 0 l := fun h => adds_long _ _ (by omega)
    have HOWN : may x = true → ∀ (B : Option Addr) (d : Nat) (W : World), Bools W B (lst x) → Calls Try.prog 16 #[.int .u16 0, .slice B (lst x).length d] W (Pure (.int .u16 (x : Int)) W) := fun h B d W hB => by
      have := added_any (c := d) 0 (by omega) rfl hB (by omega)
      rwa [adds_own h] at this
    unfold Pure at HMAY HA1 HA2 HA3 HOWN
    generalize adds (adds x a) l = z2 at *
    generalize adds x a = z1 at *
    generalize adds 0 l = z3 at *
    obtain ⟨r, hr⟩ : ∃ r, may x = r := ⟨_, rfl⟩
    rw [hr] at HMAY HOWN
    clear hr ha hl hn hn2 h1 h2
    generalize lst x = kl at *
    obtain ⟨k, hk⟩ : ∃ k, kl.length = k := ⟨_, rfl⟩
    have HK := Bx.mk hk
    rw [hk] at HOWN hk8
    clear hk
    cases r
    · clear HLI HOWN
      by_cases h8 : 8 ≤ n2
      · obtain rfl := HADD h8
        have h8i : (8 : Int) ≤ (n2 : Int) := by omega
        clear h8 HADD
        go_enter Try.func5, Try.ntmps5
        go_wp2_with fail
        refine HAW.out.mono ?_
        rintro e w1 ⟨rfl, hb⟩
        have HB1 := Bx.mk hb
        clear hb HAW
        go_wp2_with fail
        refine (HMAY.out _).mono ?_
        rintro e w2 ⟨rfl, hs⟩
        have HB4 := Bx.mk (HB1.out.trans (hs.below _))
        clear hs HB1 HMAY
        go_wp2_with fail
        refine (HA1.out _ HB4.out).mono ?_
        rintro e w5 ⟨rfl, hs⟩
        have HB5 := Bx.mk (HB4.out.trans (hs.below _))
        clear hs HB4
        go_wp2_with fail
        refine (HA2.out _ HB5.out).mono ?_
        rintro e w6 ⟨rfl, hs⟩
        have HB6 := Bx.mk (HB5.out.trans (hs.below _))
        clear hs HB5
        go_wp2_with fail
        refine (HA3.out _ HB6.out).mono ?_
        rintro e w7 ⟨rfl, hs⟩
        have HB7 := Bx.mk (HB6.out.trans (hs.below _))
        clear hs HB6
        go_wp2_with fail
        go_ret
        exact ⟨rfl, HB7.out⟩
      · have h8i : (n2 : Int) < 8 := by omega
        clear h8 HADD
        go_enter Try.func5, Try.ntmps5
        go_wp2_with fail
        refine HAW.out.mono ?_
        rintro e w1 ⟨rfl, hb⟩
        have HB1 := Bx.mk hb
        clear hb HAW
        go_wp2_with fail
        refine (HMAY.out _).mono ?_
        rintro e w2 ⟨rfl, hs⟩
        have HB4 := Bx.mk (HB1.out.trans (hs.below _))
        clear hs HB1 HMAY
        go_wp2_with fail
        go_ret
        exact ⟨rfl, HB4.out⟩
    · have HOW2 := Bx.mk (HOWN rfl)
      clear HOWN
      by_cases h8 : 8 ≤ n2
      · obtain rfl := HADD h8
        have h8i : (8 : Int) ≤ (n2 : Int) := by omega
        clear h8 HADD
        go_enter Try.func5, Try.ntmps5
        go_wp2_with fail
        refine HAW.out.mono ?_
        rintro e w1 ⟨rfl, hb⟩
        have HB1 := Bx.mk hb
        clear hb HAW
        go_wp2_with fail
        refine (HMAY.out _).mono ?_
        rintro e w2 ⟨rfl, hs⟩
        have HB2 := Bx.mk (HB1.out.trans (hs.below _))
        clear hs HB1 HMAY
        go_wp2_with fail
        refine (HLI.out _).mono ?_
        rintro e w3 ⟨A3, c3, rfl, ho, hb⟩
        rw [HK.out] at ho ⊢
        have HB3 := Bx.mk (HB2.out.trans (hb.mono HB2.out.size))
        have HO := Bx.mk (HOW2.out A3 c3 _ (bools_of ho))
        clear hb ho HB2 HLI
        go_wp2_with fail
        refine HO.out.mono ?_
        rintro e w4 ⟨rfl, hs⟩
        have HB4 := Bx.mk (HB3.out.trans (hs.below _))
        clear hs HB3 HO
        go_wp2_with fail
        refine (HA1.out _ HB4.out).mono ?_
        rintro e w5 ⟨rfl, hs⟩
        have HB5 := Bx.mk (HB4.out.trans (hs.below _))
        clear hs HB4
        go_wp2_with fail
        refine (HA2.out _ HB5.out).mono ?_
        rintro e w6 ⟨rfl, hs⟩
        have HB6 := Bx.mk (HB5.out.trans (hs.below _))
        clear hs HB5
        go_wp2_with fail
        refine (HA3.out _ HB6.out).mono ?_
        rintro e w7 ⟨rfl, hs⟩
        have HB7 := Bx.mk (HB6.out.trans (hs.below _))
        clear hs HB6
        go_wp2_with fail
        go_ret
        exact ⟨rfl, HB7.out⟩
      · have h8i : (n2 : Int) < 8 := by omega
        clear h8 HADD
        go_enter Try.func5, Try.ntmps5
        go_wp2_with fail
        refine HAW.out.mono ?_
        rintro e w1 ⟨rfl, hb⟩
        have HB1 := Bx.mk hb
        clear hb HAW
        go_wp2_with fail
        refine (HMAY.out _).mono ?_
        rintro e w2 ⟨rfl, hs⟩
        have HB2 := Bx.mk (HB1.out.trans (hs.below _))
        clear hs HB1 HMAY
        go_wp2_with fail
        refine (HLI.out _).mono ?_
        rintro e w3 ⟨A3, c3, rfl, ho, hb⟩
        rw [HK.out] at ho ⊢
        have HB3 := Bx.mk (HB2.out.trans (hb.mono HB2.out.size))
        have HO := Bx.mk (HOW2.out A3 c3 _ (bools_of ho))
        clear hb ho HB2 HLI
        go_wp2_with fail
        refine HO.out.mono ?_
        rintro e w4 ⟨rfl, hs⟩
        have HB4 := Bx.mk (HB3.out.trans (hs.below _))
        clear hs HB3 HO
        go_wp2_with fail
        go_ret
        exact ⟨rfl, HB4.out⟩
  · by_cases h1 : n ≤ 300
    · have h1i : (n : Int) ≤ 300 := by omega
      have h2i : (300 : Int) < (n2 : Int) := by omega
      clear ha hn hl hn2 h300 h1
      go_enter Try.func5, Try.ntmps5
      go_wp2_with fail
      refine HAW.out.mono ?_
      rintro e w1 ⟨rfl, hb⟩
      have HB1 := Bx.mk hb
      clear hb HAW
      go_wp2_with fail
      go_ret
      exact ⟨rfl, HB1.out⟩
    · have h2i : (300 : Int) < (n : Int) := by omega
      clear ha hn hl hn2 h300 h1
      go_enter Try.func5, Try.ntmps5
      go_wp2_with fail
      refine HAW.out.mono ?_
      rintro e w1 ⟨rfl, hb⟩
      have HB1 := Bx.mk hb
      clear hb HAW
      go_wp2_with fail
      go_ret
      exact ⟨rfl, HB1.out⟩
end Go.Proofs.Ytlamhcdgpodbhaa.wn
