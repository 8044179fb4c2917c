/-
  Given for the seat's laws: the contracts of Chance and Score. No condition but those of the theorems.
-/
import Derived.Test.YtimlcjdpnhhjdaaRScore
namespace Go.Proofs.Ytimlcjdpnhhjdaa.rk
open Go.RowKit mem sp
set_option linter.unusedVariables false

def TellTo (s : Sc) (w : World) (e : Ending) (w' : World) : Prop := e = .returned (.tuple #[.int .u64 s.top, .bool s.has]) ∧ Below w.heap.size w w'

set_option maxHeartbeats 4000000 in
set_option maxRecDepth 100000 in
theorem chance_any {w : World} {ok : Nat → Prop} {A : Option Addr} {n c : Nat} {key : Str} (hs : Spell w ok A n c key) (hok : ∀ g, ok g → g < w.heap.size) (b : Str) (hb : b.length ≤ 100000) (i : UInt8) : Calls Try.prog 12 #[.slice A n c, .string (S b), .int .u8 (i.toNat : Int)] w (NumTo (hsum (hk 0 key) (hk 1 key) (b ++ [i])) w) := by
  have HH := Bx.mk (halves_any hs hok)
  have HD := Bx.mk (fun W => draw_any (hk 0 key) (hk 1 key) b i hb W)
  unfold HalfTo at HH
  generalize hk 0 key = k0 at *
  generalize hk 1 key = k1 at *
  clear hs
  go_enter Try.func12, Try.ntmps12
  go_wp2_with fail
  refine HH.out.mono ?_
  rintro e w1 ⟨rfl, hb1⟩
  have HB := Bx.mk hb1
  clear hb1
  go_wp2_with fail
  refine (HD.out _).mono ?_
  rintro e w2 ⟨rfl, hb2⟩
  go_wp2_with fail
  go_ret
  exact ⟨rfl, HB.out.trans (hb2.mono HB.out.size)⟩

set_option maxHeartbeats 4000000 in
set_option maxRecDepth 100000 in
theorem score_any {w : World} {ok : Nat → Prop} {A : Option Addr} {n c : Nat} {key : Str} (hs : Spell w ok A n c key) (hok : ∀ g, ok g → g < w.heap.size) (b : Str) (hb : b.length ≤ 100000) (z : Int) : Calls Try.prog 10 #[.slice A n c, .string (S b), .int .i64 z] w (TellTo (scoK key b z) w) := by
  have HH := Bx.mk (halves_any hs hok)
  have HD : Bx (∀ W, Calls Try.prog 23 #[hv (hk 0 key) (hk 1 key), .string (S b), .int .i64 z] W (ScTo (sco (hk 0 key) (hk 1 key) b z) W)) := Bx.mk (fun W => (if h : 100 < z then scoreOf_great (hk 0 key) (hk 1 key) b z hb h W else scoreOf_small (hk 0 key) (hk 1 key) b z hb (by omega) W))
  unfold scoK
  unfold HalfTo at HH
  generalize hk 0 key = k0 at *
  generalize hk 1 key = k1 at *
  generalize sco k0 k1 b z = s at *
  obtain ⟨d, x⟩ := s
  clear hs
  go_enter Try.func10, Try.ntmps10
  go_wp2_with fail
  refine HH.out.mono ?_
  rintro e w1 ⟨rfl, hb1⟩
  have HB := Bx.mk hb1
  clear hb1
  go_wp2_with fail
  refine (HD.out _).mono ?_
  rintro e w2 ⟨rfl, hb2⟩
  have HB2 := Bx.mk (HB.out.trans (hb2.mono HB.out.size))
  clear hb2
  go_wp2_with fail
  go_region
  all_goals
    go_wp2
    go_ret2
    exact ⟨rfl, (HB2.out.trans (((Below.refl _ _).alloc (Nat.le_refl _) _).mono HB2.out.size)).drew⟩
end Go.Proofs.Ytimlcjdpnhhjdaa.rk
