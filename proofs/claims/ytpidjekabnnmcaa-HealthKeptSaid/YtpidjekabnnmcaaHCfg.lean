/-
  Given for the seat's laws: a configuration as it lies: its limits, its parents; whether it is longer than what is gone through. No condition but those of the theorems.
-/
import Derived.Test.YtpidjekabnnmcaaMem
import Derived.Test.YtpidjekabnnmcaaBMem
import Derived.Deep.Slices
import Derived.Deep.Strs
import Derived.ChangeOld
import Derived.Lib.SmallJoins
namespace Go.Proofs.Ytpidjekabnnmcaa.hp
open Go.RowKit mem
set_option linter.unusedVariables false

/-- a parent of a configuration: eight cells -/
structure PaD where
  nm : ByteArray
  kd : Int
  tx : ByteArray
  po : Int
  pr : Int
  us : ByteArray
  pw : ByteArray
  we : Int
/-- one parent as it lies at a place -/
structure PaAt (w : World) (g o : Nat) (x : PaD) : Prop where
  c0 : w.cell? ⟨g, o, none⟩ = some (.string x.nm)
  c1 : w.cell? ⟨g, o + 1, none⟩ = some (.int .u8 x.kd)
  c2 : w.cell? ⟨g, o + 2, none⟩ = some (.string x.tx)
  c3 : w.cell? ⟨g, o + 3, none⟩ = some (.int .i64 x.po)
  c4 : w.cell? ⟨g, o + 4, none⟩ = some (.int .u8 x.pr)
  c5 : w.cell? ⟨g, o + 5, none⟩ = some (.string x.us)
  c6 : w.cell? ⟨g, o + 6, none⟩ = some (.string x.pw)
  c7 : w.cell? ⟨g, o + 7, none⟩ = some (.int .i64 x.we)
theorem PaAt.of_same {w w' : World} {g o : Nat} {x : PaD} (h : PaAt w g o x) (hs : w'.heap[g]? = w.heap[g]?) : PaAt w' g o x := by
  have e : ∀ j, w'.cell? ⟨g, j, none⟩ = w.cell? ⟨g, j, none⟩ := fun j => World.cell?_of_block hs
  exact ⟨(e _).trans h.c0, (e _).trans h.c1, (e _).trans h.c2, (e _).trans h.c3, (e _).trans h.c4, (e _).trans h.c5, (e _).trans h.c6, (e _).trans h.c7⟩
theorem PaAt.lt {w : World} {g o : Nat} {x : PaD} (h : PaAt w g o x) : g < w.heap.size := World.block_lt_of_cell? _ _ h.c0
/-- parents as they lie one behind the other, in a block that ok lets in -/
structure PasAt (w : World) (ok : Nat → Prop) (A : Option Addr) (l : List PaD) : Prop where
  ex : 0 < l.length → ∃ g off, A = some ⟨g, off, none⟩ ∧ ok g ∧ ∀ (j : Nat) (x : PaD), l[j]? = some x → PaAt w g (off + j * 8) x
theorem PasAt.keep {w w' : World} {ok : Nat → Prop} {A : Option Addr} {l : List PaD} (h : PasAt w ok A l) (hk : ∀ g, ok g → w'.heap[g]? = w.heap[g]?) : PasAt w' ok A l := ⟨fun hp => by
  obtain ⟨g, off, e, ho, hc⟩ := h.ex hp
  exact ⟨g, off, e, ho, fun j x hx => (hc j x hx).of_same (hk g ho)⟩⟩
theorem PasAt.weak {w : World} {ok ok' : Nat → Prop} {A : Option Addr} {l : List PaD} (h : PasAt w ok A l) (hk : ∀ g, ok g → ok' g) : PasAt w ok' A l := ⟨fun hp => by
  obtain ⟨g, off, e, ho, hc⟩ := h.ex hp
  exact ⟨g, off, e, hk g ho, hc⟩⟩
theorem PasAt.below {w w' : World} {A : Option Addr} {l : List PaD} (h : PasAt w (fun g => g < w.heap.size) A l) (hb : Below w.heap.size w w') : PasAt w' (fun g => g < w'.heap.size) A l :=
  (h.keep fun g hg => hb.block g hg).weak fun g hg => Nat.lt_of_lt_of_le hg hb.size

/-- a configuration: what of it is looked at, and the other cells -/
structure CfD where
  x0 : Value
  l0 : Int
  l1 : Int
  l2 : Int
  l3 : Int
  l4 : Int
  l5 : Int
  l6 : Int
  l7 : Int
  fails : Int
  cool : Int
  probe : Int
  x12 : Value
  A : Option Addr
  ps : List PaD
  c : Nat
  x14 : Value
  x15 : Value
abbrev CfD.v (d : CfD) : Value := .agg #[d.x0, .int .i64 d.l0, .int .i64 d.l1, .int .i64 d.l2, .int .i64 d.l3, .int .i64 d.l4, .int .i64 d.l5, .int .i64 d.l6, .int .i64 d.l7, .int .i64 d.fails, .int .i64 d.cool, .int .i64 d.probe, d.x12, .slice d.A d.ps.length d.c, d.x14, d.x15]
/-- a configuration's cells as they lie in a block -/
structure CfAt (w : World) (g : Nat) (d : CfD) : Prop where
  c0 : w.cell? ⟨g, 0, none⟩ = some d.x0
  c1 : w.cell? ⟨g, 1, none⟩ = some (.int .i64 d.l0)
  c2 : w.cell? ⟨g, 2, none⟩ = some (.int .i64 d.l1)
  c3 : w.cell? ⟨g, 3, none⟩ = some (.int .i64 d.l2)
  c4 : w.cell? ⟨g, 4, none⟩ = some (.int .i64 d.l3)
  c5 : w.cell? ⟨g, 5, none⟩ = some (.int .i64 d.l4)
  c6 : w.cell? ⟨g, 6, none⟩ = some (.int .i64 d.l5)
  c7 : w.cell? ⟨g, 7, none⟩ = some (.int .i64 d.l6)
  c8 : w.cell? ⟨g, 8, none⟩ = some (.int .i64 d.l7)
  c9 : w.cell? ⟨g, 9, none⟩ = some (.int .i64 d.fails)
  c10 : w.cell? ⟨g, 10, none⟩ = some (.int .i64 d.cool)
  c11 : w.cell? ⟨g, 11, none⟩ = some (.int .i64 d.probe)
  c12 : w.cell? ⟨g, 12, none⟩ = some d.x12
  c13 : w.cell? ⟨g, 13, none⟩ = some (.slice d.A d.ps.length d.c)
  c14 : w.cell? ⟨g, 14, none⟩ = some d.x14
  c15 : w.cell? ⟨g, 15, none⟩ = some d.x15
abbrev CfD.cs (d : CfD) : Array Value := #[d.x0, .int .i64 d.l0, .int .i64 d.l1, .int .i64 d.l2, .int .i64 d.l3, .int .i64 d.l4, .int .i64 d.l5, .int .i64 d.l6, .int .i64 d.l7, .int .i64 d.fails, .int .i64 d.cool, .int .i64 d.probe, d.x12, .slice d.A d.ps.length d.c, d.x14, d.x15]
theorem cf_of_lies {w : World} {g : Nat} {t : TypeId} {d : CfD} (h : Lies w g t d.cs) : CfAt w g d :=
  ⟨h.cell 0, h.cell 1, h.cell 2, h.cell 3, h.cell 4, h.cell 5, h.cell 6, h.cell 7, h.cell 8, h.cell 9, h.cell 10, h.cell 11, h.cell 12, h.cell 13, h.cell 14, h.cell 15⟩
theorem CfAt.of_same {w w' : World} {g : Nat} {d : CfD} (h : CfAt w g d) (hs : w'.heap[g]? = w.heap[g]?) : CfAt w' g d := by
  have e : ∀ j, w'.cell? ⟨g, j, none⟩ = w.cell? ⟨g, j, none⟩ := fun j => World.cell?_of_block hs
  exact ⟨(e _).trans h.c0, (e _).trans h.c1, (e _).trans h.c2, (e _).trans h.c3, (e _).trans h.c4, (e _).trans h.c5, (e _).trans h.c6, (e _).trans h.c7, (e _).trans h.c8, (e _).trans h.c9, (e _).trans h.c10, (e _).trans h.c11, (e _).trans h.c12, (e _).trans h.c13, (e _).trans h.c14, (e _).trans h.c15⟩
theorem CfAt.lt {w : World} {g : Nat} {d : CfD} (h : CfAt w g d) : g < w.heap.size := World.block_lt_of_cell? _ _ h.c0
theorem cf_box (w : World) (d : CfD) : CfAt (w.alloc (.cells d.cs 29)) w.heap.size d := cf_of_lies (Lies.new w 29 d.cs)

/-- what long leaves: one that isn't has at most 30 parents -/
structure Lng (n : Nat) (w : World) (e : Ending) (w' : World) : Prop where
  ex : ∃ b, e = .returned (.bool b) ∧ (b = false → n ≤ 30) ∧ Below w.heap.size w w'
set_option maxRecDepth 100000 in
set_option maxHeartbeats 2000000 in
/-- long: of a configuration whatever: one that isn't has at most 30 parents -/
theorem long_any (d : CfD) (w : World) (hp : PasAt w (fun g => g < w.heap.size) d.A d.ps) (hm : d.ps.length ≤ maxLen) :
    Calls Try.prog 7 #[d.v] w (Lng d.ps.length w) := by
  have hb0 : Below w.heap.size w (w.alloc (.cells #[d.x0, .int .i64 d.l0, .int .i64 d.l1, .int .i64 d.l2, .int .i64 d.l3, .int .i64 d.l4, .int .i64 d.l5, .int .i64 d.l6, .int .i64 d.l7, .int .i64 d.fails, .int .i64 d.cool, .int .i64 d.probe, d.x12, .slice d.A d.ps.length d.c, d.x14, d.x15] 29)) := (Below.refl _ w).alloc (Nat.le_refl _) _
  have hp0 := hp.below hb0
  have c13 := (cf_box w d).c13
  have hlt := (cf_box w d).lt
  have HP := bk.Bx.mk hp0
  have HB := bk.Bx.mk hb0
  have HM : d.ps.length ≤ 9223372036854775807 := by unfold maxLen at hm; omega
  clear hb0 hp0 hp hm
  generalize hW : w.alloc (.cells #[d.x0, .int .i64 d.l0, .int .i64 d.l1, .int .i64 d.l2, .int .i64 d.l3, .int .i64 d.l4, .int .i64 d.l5, .int .i64 d.l6, .int .i64 d.l7, .int .i64 d.fails, .int .i64 d.cool, .int .i64 d.probe, d.x12, .slice d.A d.ps.length d.c, d.x14, d.x15] 29) = W at *
  have c13' : W.cell? ⟨w.heap.size, 13, none⟩ = some (.slice d.A d.ps.length d.c) := c13
  clear c13
  have HC := bk.Bx.mk c13'
  go_enter Try.func7, Try.ntmps7
  go_wp2_with fail
  all_goals try rw [hW]
  · go_ret
    exact ⟨⟨true, rfl, (fun h => by cases h), HB.out⟩⟩
  clear hW
  rename_i h30
  have h30' : d.ps.length ≤ 30 := by omega
  go_loopw [3] (fun s3 wr => ∃ j : Nat, j ≤ d.ps.length ∧ s3 = .int .i64 j ∧ wr = W) (fun s3 _ => d.ps.length - (intOf s3).toNat)
  case atStart => exact ⟨0, by omega, rfl, rfl⟩
  case round =>
    obtain ⟨j, hj, rfl, rfl⟩ := hrel
    by_cases hjn : j < d.ps.length
    · obtain ⟨g, off, hA, hg, hcs⟩ := HP.out.ex (by omega)
      have hx := hcs j (d.ps[j]'hjn) (List.getElem?_eq_getElem hjn)
      rw [hA] at c13'
      clear hA
      have d0 := hx.c0
      have d2 := hx.c2
      clear hcs hx
      generalize (d.ps[j]'hjn) = x at *
      go_wp2_with fail
      all_goals first
        | done
        | (go_ret; exact ⟨⟨true, rfl, (fun h => by cases h), HB.out⟩⟩)
        | skip
      all_goals
        go_roundw
        case rel => exact ⟨j + 1, by omega, by first | rfl | simp, by first | rfl | simp⟩
        case measure => simp [intOf]; omega
    · go_wp2_with fail
      go_ret
      exact ⟨⟨false, rfl, (fun _ => h30'), HB.out⟩⟩
end Go.Proofs.Ytpidjekabnnmcaa.hp
