/-
  Given for the seat's laws: the contracts of a Hash as it lies: made, New, Told. No condition but those of the theorems.
-/
import Derived.Test.YtimlcjdpnhhjdaaPWord
import Derived.Deep.RegionWith
import Derived.LaidEqlPtr
namespace Go.Proofs.Ytimlcjdpnhhjdaa.sp
open Go.RowKit mem
set_option linter.unusedVariables false

/-- a Hash as it lies -/
abbrev hcells (g : Nat) (s : St) (m : W64) (n : Nat) : Array Value := #[.pointer (some ⟨g, 0, none⟩), .int .u64 (num s.a), .int .u64 (num s.b), .int .u64 (num s.c), .int .u64 (num s.d), .int .u64 (num m), .int .u8 (n : Int)]
/-- a Hash to which these bytes were added -/
structure HH (wr : World) (g : Nat) (k0 k1 : W64) (b : Str) : Prop where
  lies : Lies wr g 91 (hcells g (vst k0 k1 b) (mk (le (part b))) (b.length % 256))
theorem HH.keep {wr w2 : World} {g : Nat} {k0 k1 : W64} {b : Str} (h : HH wr g k0 k1 b) (hk : w2.heap[g]? = wr.heap[g]?) : HH w2 g k0 k1 b := ⟨h.lies.of_same hk⟩
theorem HH.below {wr w2 : World} {B g : Nat} {k0 k1 : W64} {b : Str} (h : HH wr g k0 k1 b) (hb : Below B wr w2) (hg : g < B) : HH w2 g k0 k1 b := h.keep (hb.block g hg)
theorem HH.drew {wr : World} {g : Nat} {k0 k1 : W64} {b : Str} (h : HH wr g k0 k1 b) : HH wr.drew g k0 k1 b := ⟨h.lies⟩

theorem eq_self (a : Addr) (W : World) : (binOp .eql 69 (.pointer (some a)) (.pointer (some a))).run Try.prog W = .ok (.bool true) W := by
  obtain ⟨i0, hinf, _⟩ := info_parts (show (Try.prog.info? 91).map (fun i => (i.zero, i.size, i.bytes)) = (Try.prog.info? 91).map (fun i => (i.zero, i.size, i.bytes)) from rfl)
  exact run_eql_ptr_same W a Try.underlying69 hinf
theorem eq_nil (a : Addr) (W : World) : (binOp .eql 69 (.pointer none) (.pointer (some a))).run Try.prog W = .ok (.bool false) W := by
  have h : ∀ d : Nat, (Op.equalIn (d + 1) 69 (.pointer none) (.pointer (some a))).run Try.prog W = .ok false W := fun d => by
    simp [Op.equalIn, run_underlying Try.underlying69]
  simp only [binOp]
  simp [Op.equal, Op.maxDepth, h 9999]
theorem made_yes {w : World} {g : Nat} {cs : List Value} (h : w.cell? ⟨g, 0, none⟩ = some (.pointer (some ⟨g, 0, none⟩))) : Calls Try.prog 54 #[.pointer (some ⟨g, 0, none⟩)] w fun e w' => e = .returned (.bool true) ∧ w' = w := by
  have hs := fun W => eq_self ⟨g, 0, none⟩ W
  go_enter Try.func54, Try.ntmps54
  go_wp2
  go_ret
  exact ⟨rfl, rfl⟩
theorem made_odd {w : World} {g : Nat} (h : w.cell? ⟨g, 0, none⟩ = some (.pointer none)) : Calls Try.prog 54 #[.pointer (some ⟨g, 0, none⟩)] w fun e w' => e = .returned (.bool false) ∧ w' = w := by
  have hs := fun W => eq_nil ⟨g, 0, none⟩ W
  go_enter Try.func54, Try.ntmps54
  go_wp2
  go_ret
  exact ⟨rfl, rfl⟩
theorem made_none (w : World) : Calls Try.prog 54 #[.pointer none] w fun e w' => e = .returned (.bool false) ∧ w' = w := by
  go_enter Try.func54, Try.ntmps54
  go_wp2
  go_ret
  exact ⟨rfl, rfl⟩

def NewTo (k0 k1 : W64) (w : World) (e : Ending) (w' : World) : Prop := ∃ g, e = .returned (.pointer (some ⟨g, 0, none⟩)) ∧ w.heap.size ≤ g ∧ HH w' g k0 k1 [] ∧ Below w.heap.size w w'
set_option maxHeartbeats 4000000 in
set_option maxRecDepth 100000 in
theorem new_any (k0 k1 : W64) (w : World) : Calls Try.prog 37 #[.int .u64 (num k0), .int .u64 (num k1)] w (NewTo k0 k1 w) := by
  have HI := Lib.hid (init_any k0 k1 w)
  obtain ⟨s, hs⟩ : ∃ s, init k0 k1 = s := ⟨_, rfl⟩
  have HS : Bx _ := ⟨hs⟩
  rw [hs] at HI
  clear hs
  obtain ⟨a, b, c, d⟩ := s
  go_enter Try.func37, Try.ntmps37
  go_wp2_with fail
  refine HI.out.mono ?_
  rintro e w1 ⟨rfl, hb⟩
  have HB := Lib.hid hb
  clear hb
  go_wp2_with fail
  go_ret
  refine ⟨w1.heap.size, rfl, HB.out.size, ⟨?_⟩, HB.out.alloc HB.out.size _⟩
  rw [vst_nil, HS.out]
  exact Lies.new w1 91 _

theorem told_none (w : World) : Calls Try.prog 39 #[.pointer none] w fun e w' => e = .returned (.int .u64 0) ∧ w' = w := by
  go_enter Try.func39, Try.ntmps39
  go_wp2_with fail
  refine (made_none _).mono ?_
  rintro e w1 ⟨rfl, rfl⟩
  go_wp2_with fail
  go_ret
  exact ⟨rfl, rfl⟩
theorem told_odd {w : World} {g : Nat} (h : w.cell? ⟨g, 0, none⟩ = some (.pointer none)) : Calls Try.prog 39 #[.pointer (some ⟨g, 0, none⟩)] w fun e w' => e = .returned (.int .u64 0) ∧ w' = w := by
  have HM := Lib.hid (made_odd h)
  clear h
  go_enter Try.func39, Try.ntmps39
  go_wp2_with fail
  refine HM.out.mono ?_
  rintro e w1 ⟨rfl, rfl⟩
  go_wp2_with fail
  go_ret
  exact ⟨rfl, rfl⟩

set_option maxHeartbeats 4000000 in
set_option maxRecDepth 100000 in
theorem told_any {w : World} {g : Nat} {k0 k1 : W64} {p : Str} (h : HH w g k0 k1 p) : Calls Try.prog 39 #[.pointer (some ⟨g, 0, none⟩)] w fun e w' => e = .returned (.int .u64 (num (hsum k0 k1 p))) ∧ Below w.heap.size w w' := by
  have HL := h.lies
  have HM := Lib.hid (made_yes (cs := []) (HL.cell 0))
  have ho := or_last p
  rw [IntKind.wrap_u64, Int.emod_eq_of_lt (by omega) (by omega)] at ho
  have hh : hsum k0 k1 p = fin (wd (vst k0 k1 p) (mk (lastn p))) := rfl
  generalize mk (lastn p) = l at ho hh
  generalize vst k0 k1 p = s at HL hh
  generalize mk (le (part p)) = m at HL ho
  have hnb : p.length % 256 < 256 := by omega
  generalize p.length % 256 = n at HL ho hnb
  have HH' : Bx _ := ⟨hh⟩
  obtain ⟨a, b, c, d⟩ := s
  have c0 := HL.cell 1; have c1 := HL.cell 2; have c2 := HL.cell 3; have c3 := HL.cell 4; have c4 := HL.cell 5; have c5 := HL.cell 6
  simp at c0 c1 c2 c3 c4 c5
  have hw : IntKind.u64.wrap (n : Int) = (n : Int) := by rw [IntKind.wrap_u64]; omega
  have hlt := HL.lt
  have WD := Lib.hid (fun W => word_any ⟨a, b, c, d⟩ l W)
  have LA := Lib.hid (fun W => last_any (wd ⟨a, b, c, d⟩ l) W)
  clear h hh HL
  go_enter Try.func39, Try.ntmps39
  go_wp2_with fail
  refine HM.out.mono ?_
  rintro e w1 ⟨rfl, rfl⟩
  clear HM
  go_wp2_with fail
  go_region_with (first
    | ((with_reducible refine (WD.out _).mono ?_); rintro e w2 ⟨rfl, hb2⟩; have HB2 := Lib.hid hb2; clear hb2)
    | ((with_reducible refine (LA.out _).mono ?_); rintro e w3 ⟨rfl, hb3⟩; have HB3 := Lib.hid hb3; clear hb3))
  all_goals
    go_wp2_with fail
    go_ret
    exact ⟨by rw [HH'.out]; rfl, ((Still.drew1 w1).below _).trans (HB2.out.trans (HB3.out.mono HB2.out.size))⟩
end Go.Proofs.Ytimlcjdpnhhjdaa.sp
