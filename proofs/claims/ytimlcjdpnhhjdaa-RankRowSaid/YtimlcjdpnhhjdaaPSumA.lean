/-
  Given for the seat's laws: the contracts of the two Sum functions. No condition but those of the theorems.
-/
import Derived.Test.YtimlcjdpnhhjdaaPWords
namespace Go.Proofs.Ytimlcjdpnhhjdaa.sp
open Go.RowKit mem
set_option linter.unusedVariables false

/-- the number of the hash, and nothing that was there has turned -/
def SumTo (k0 k1 : W64) (b : Str) (w : World) (e : Ending) (w' : World) : Prop := e = .returned (.int .u64 (num (hsum k0 k1 b))) ∧ Below w.heap.size w w'

set_option maxHeartbeats 4000000 in
set_option maxRecDepth 100000 in
theorem sum_any {w : World} {ok : Nat → Prop} {A : Option Addr} {n c : Nat} {b : Str} (k0 k1 : W64) (hs : Spell w ok A n c b) (hok : ∀ g, ok g → g < w.heap.size) : Calls Try.prog 29 #[.int .u64 (num k0), .int .u64 (num k1), .slice A n c] w (SumTo k0 k1 b w) := by
  have HS := Lib.hid hs
  have HOK := Lib.hid hok
  have HN := Lib.hid (new_any k0 k1 w)
  clear hs hok
  go_enter Try.func29, Try.ntmps29
  go_wp2_with fail
  refine HN.out.mono ?_
  rintro e w1 ⟨g, rfl, hg, hh, hb⟩
  have hgl := hh.lies.lt
  have hs1 := HS.out.below hb HOK.out
  have HA := Lib.hid (add_any hh hs1 (fun x hx => ⟨fun e => by subst e; have := HOK.out _ hx; omega, Nat.lt_of_lt_of_le (HOK.out x hx) hb.size⟩))
  have HB := Lib.hid hb
  have HG := Lib.hid hg
  clear hh hb hs1 hg
  go_wp2_with fail
  refine HA.out.mono ?_
  rintro e w2 ⟨rfl, ha⟩
  have HT := Lib.hid (told_any ha.hh)
  have HB2 := Lib.hid (HB.out.trans (ha.keep.below (B' := w.heap.size) HB.out.size (fun k hk e => by have := HG.out; omega)))
  clear ha
  go_wp2_with fail
  refine HT.out.mono ?_
  rintro e w3 ⟨rfl, hb3⟩
  have HB3 := Lib.hid (HB2.out.trans (hb3.mono HB2.out.size))
  clear hb3
  go_wp2_with fail
  go_ret
  exact ⟨rfl, HB3.out⟩

end Go.Proofs.Ytimlcjdpnhhjdaa.sp
