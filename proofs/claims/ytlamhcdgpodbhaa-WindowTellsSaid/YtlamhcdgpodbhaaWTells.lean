/-
  Given for the seat's laws: the law WindowTells answers true over whatever memory. No condition but those of the theorems.
-/
import Derived.Test.YtlamhcdgpodbhaaWRNum
import Derived.Test.YtlamhcdgpodbhaaWBad
import Derived.Test.YtlamhcdgpodbhaaWList
namespace Go.Proofs.Ytlamhcdgpodbhaa.wn
open Go.RowKit mem
set_option linter.unusedVariables false

set_option maxHeartbeats 4000000 in
set_option maxRecDepth 100000 in
theorem tells_any (x : Nat) (hx : x < 65536) (g : Bool) (w : World) : Calls Try.prog 3 #[.int .u16 (x : Int), .bool g] w (True_ w) := by
  have HR := Bx.mk (rlist_any x hx w)
  have HM := Bx.mk (fun W => may_any x hx W)
  have HL := Bx.mk (fun W => len_any x hx W)
  have HB := Bx.mk (fun W => bad_any x hx W)
  have HRB := Bx.mk (fun W => rbad_any x hx W)
  have HLI := Bx.mk (fun W => list_any x hx W)
  have HA := Bx.mk (fun W => add_any x hx g W)
  have HRA := Bx.mk (fun W => radd_any x hx g W)
  have hk8 := hk_le x
  rw [← lst_len x] at hk8
  unfold Pure at HM HL HA
  generalize addw x g = z at *
  generalize may x = r at *
  generalize lst x = l at *
  obtain ⟨n, hn⟩ : ∃ n, l.length = n := ⟨_, rfl⟩
  obtain ⟨m, hm⟩ : ∃ m, bads l = m := ⟨_, rfl⟩
  rw [hn] at HL hk8
  rw [hm] at HB HRB
  have HN := Bx.mk hn
  clear hn hm
  go_enter Try.func3, Try.ntmps3
  go_wp2_with fail
  refine HR.out.mono ?_
  rintro e w1 ⟨A, c, rfl, ho, hb⟩
  rw [HN.out] at ho ⊢
  have HO := Bx.mk (bools_own ho)
  have HB1 := Bx.mk hb
  clear hb ho HR
  go_wp2_with fail
  refine (HM.out _).mono ?_
  rintro e w2 ⟨rfl, hs⟩
  have HB2 := Bx.mk (HB1.out.trans (hs.below _))
  have HO2 := Bx.mk (HO.out.below' (hs.below _))
  clear hs HB1 HO
  cases r
  all_goals
    go_wp2_with fail
    refine (HL.out _).mono ?_
    rintro e w3 ⟨rfl, hs⟩
    have HB3 := Bx.mk (HB2.out.trans (hs.below _))
    have HO3 := Bx.mk (HO2.out.below' (hs.below _))
    clear hs HB2 HO2
    go_wp2_with fail
    refine (HB.out _).mono ?_
    rintro e w4 ⟨rfl, hb⟩
    have HB4 := Bx.mk (HB3.out.trans (hb.mono HB3.out.size))
    have HO4 := Bx.mk (HO3.out.below' hb)
    clear hb HB3 HO3
    go_wp2_with fail
    refine (HRB.out _).mono ?_
    rintro e w5 ⟨rfl, hb⟩
    have HB5 := Bx.mk (HB4.out.trans (hb.mono HB4.out.size))
    have HO5 := Bx.mk (HO4.out.below' hb)
    clear hb HB4 HO4
    go_wp2_with fail
    refine (HLI.out _).mono ?_
    rintro e w6 ⟨A2, c2, rfl, ho, hb⟩
    rw [HN.out] at ho ⊢
    have HB6 := Bx.mk (HB5.out.trans (hb.mono HB5.out.size))
    have HS := Bx.mk (rsame_any (n := n) (m := n) (c := c2) (d := c) HN.out (bools_own ho) HN.out (HO5.out.below' hb) (by omega))
    clear hb ho HB5 HO5
    go_wp2_with fail
    refine HS.out.mono ?_
    rintro e w7 ⟨he, hb⟩
    obtain rfl : e = .returned (.bool true) := by simpa using he
    have HB7 := Bx.mk (HB6.out.trans (hb.mono HB6.out.size))
    clear hb HB6
    go_wp2_with fail
    refine (HA.out _).mono ?_
    rintro e w8 ⟨rfl, hs⟩
    have HB8 := Bx.mk (HB7.out.trans (hs.below _))
    clear hs HB7
    go_wp2_with fail
    refine (HRA.out _).mono ?_
    rintro e w9 ⟨rfl, hb⟩
    have HB9 := Bx.mk (HB8.out.trans (hb.mono HB8.out.size))
    clear hb HB8
    go_wp2_with fail
    go_ret
    exact ⟨rfl, HB9.out⟩
end Go.Proofs.Ytlamhcdgpodbhaa.wn
