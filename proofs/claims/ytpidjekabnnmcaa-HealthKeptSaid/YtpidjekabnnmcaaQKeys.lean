/-
  Given for the seat's laws: the contract of Round over any plan that New made, and of Keys. No condition but those of the theorems.
-/
import Derived.Test.YtpidjekabnnmcaaQRound
namespace Go.Proofs.Ytpidjekabnnmcaa.pl
open Go.RowKit Go.Shelf mem find pb reg
set_option linter.unusedVariables false
attribute [local go_sem] Oper.semAt_some

/-- **Round**, at a tick that may be -/
theorem round_any {w : World} {S : Nat → Prop} {r : Nat} {ev : Int} {R : List (Int × Int)} (h : Pn w S r ev R) {Aw : Option Addr} {cw : Nat} {ws : List Int} (ha : RowAt w (fun g => g < w.heap.size ∧ ¬ S g) Aw (I8 ws)) (hwl : ws.length ≤ 1000)
    {now : Int} (n1 : 0 ≤ now) (n2 : now ≤ 1099511626775) :
    Calls Try.prog 30 #[.pointer (some ⟨r, 0, none⟩), .int .i64 now, .slice Aw ws.length cw] w (RoundPost S r ev now ws R w) := by
  refine (callsIn_wide.1 (round_in (S := fun g => S g ∧ g < w.heap.size) h.bounded (fun g hg => hg.2) (ha.weak fun g hg => ⟨hg.1, fun hs => hg.2 hs.1⟩) hwl n1 n2)).mono ?_
  rintro e w' ⟨A, c, rfl, h2, h3, h4⟩
  exact ⟨A, c, rfl, h2, h3.mono (fun g e => e.1), h4.mono (Nat.le_refl _) (fun g _ e => e.1)⟩

set_option maxHeartbeats 1000000 in
theorem round_out {w : World} {S : Nat → Prop} {r : Nat} {ev : Int} {R : List (Int × Int)} (h : Pn w S r ev R) (now : Int) (ho : now < 0 ∨ 1099511626775 < now) (A : Option Addr) (n c : Nat) :
    Calls Try.prog 30 #[.pointer (some ⟨r, 0, none⟩), .int .i64 now, .slice A n c] w fun e w' => e = .returned (.slice none 0 0) ∧ Below w.heap.size w w' := by
  have b4 : Below w.heap.size w (((w.alloc (.cells #[.pointer (some ⟨r, 0, none⟩)] 33)).alloc (.cells #[.int .i64 now] 3)).alloc (.cells #[.slice A n c] 47)) :=
    (((Below.refl _ w).alloc (Nat.le_refl _) _).alloc (by simp) _).alloc (by simp; omega) _
  have HM := Bx.mk (made_yes (h.below b4))
  have HB := Bx.mk b4
  have HO := Bx.mk ho
  clear h b4 ho
  go_enter Try.func30, Try.ntmps30
  go_wp2_with fail
  go_step3
  go_wp2_with (first
    | (go_at_call 44; refine HM.out.mono ?_; rintro e w' ⟨rfl, rfl⟩)
    | (go_at_call 51; refine (tick_no _ _ HO.out).mono ?_; rintro e w' ⟨rfl, rfl⟩))
  try rw [Exit.noGoto_ret]
  go_ret
  exact ⟨rfl, HB.out⟩

/-- while Keys collects -/
structure KJ (w : World) (S : Nat → Prop) (r : Nat) (ev : Int) (R : List (Int × Int)) (D : List Int) (W : World) : Prop where
  below : Below w.heap.size w W
  due : ∃ v, Lies W w.heap.size 47 #[v] ∧ W.ownsRow (w.heap.size + 2) 3 1 v D.length (I8 D)
  bo : Lies W (w.heap.size + 1) 33 #[.pointer (some ⟨r, 0, none⟩)]

theorem KJ.own {w W W' : World} {S : Nat → Prop} {r B : Nat} {ev : Int} {R : List (Int × Int)} {D : List Int} {row : Option Nat} (h : KJ w S r ev R D W) (hB : w.heap.size ≤ B) (hg : W.grownBy W' row) (hr : ∀ r, row = some r → B ≤ r ∧ ∃ o : Obj, W.heap[r]? = some o ∧ o.isCells = false) : KJ w S r ev R D W' := by
  obtain ⟨v, h1, h2⟩ := h.due
  exact ⟨below_own h.below hB hg hr, ⟨v, lies_own h1 hg hr, row_own h2 hg hr⟩, lies_own h.bo hg hr⟩

theorem KJ.more {w W : World} {S : Nat → Prop} {r : Nat} {ev : Int} {R : List (Int × Int)} {D : List Int} (h : KJ w S r ev R D W) (hD : D.length ≤ 64) (key : Int) :
    ∃ (v : Value) (A' : Option Addr) (c' : Nat) (W2 : World), W.cell? ⟨w.heap.size, 0, none⟩ = some v ∧ (Builtin.append_ #[47, 47] 47 #[v, .slice (some ⟨W.heap.size, 0, none⟩) 1 1]).run Try.prog (W.alloc (.cells #[.int .i64 key] 3)) = .ok (.slice A' (D.length + 1) c') W2 ∧
      W2.cell? ⟨w.heap.size, 0, none⟩ = some v ∧ W2.frozen? ⟨w.heap.size, 0, none⟩ = false ∧ KJ w S r ev R (D ++ [key]) (W2.setCell ⟨w.heap.size, 0, none⟩ (.slice A' (D.length + 1) c')) ∧
      KeepsOthers W (W2.setCell ⟨w.heap.size, 0, none⟩ (.slice A' (D.length + 1) c')) := by
  obtain ⟨v, h1, h2⟩ := h.due
  have hbo := h.bo.lt
  have hb : Below W.heap.size W (W.alloc (.cells #[.int .i64 key] 3)) := (Below.refl _ W).alloc (Nat.le_refl _) _
  obtain ⟨A', c', W2, hr, ho, hg⟩ := append_int (own_below h2 hb) W.heap.size key (Lies.new W _ _) (by omega) (by simp; omega)
  have hrow : ∀ g, v.ownBlock = some g → w.heap.size + 2 ≤ g := fun g e => (own_cell h2 e).1
  have lk : ∀ {g : Nat} {t : TypeId} {cs : Array Value}, Lies (W.alloc (.cells #[.int .i64 key] 3)) g t cs → g < w.heap.size + 2 → Lies W2 g t cs := fun hl hlt => hl.grown hg (fun e => by have := hrow _ e.symm; omega)
  have g1' := lk (h1.alloc _) (by omega)
  have hbel : Below w.heap.size w W2 := (h.below.alloc h.below.size _).grown hg (by simp; omega) (fun k e => by have := hrow k e; omega)
  refine ⟨v, A', c', W2, h1.cell 0, hr, g1'.cell 0, g1'.frozen 0, ⟨hbel.setCell (p := ⟨w.heap.size, 0, none⟩) (Nat.le_refl _) _, ⟨_, g1'.set 0 _, ?_⟩, (lk (h.bo.alloc _) (by omega)).far (p := ⟨w.heap.size, 0, none⟩) (by show w.heap.size + 1 ≠ w.heap.size; omega) _⟩, ?_⟩
  · have := own_far ho ⟨w.heap.size, 0, none⟩ (by show w.heap.size < _; omega) (.slice A' (D.length + 1) c')
    simpa using this
  · refine ((KeepsOthers.alloc W _).trans (KeepsOthers.of_grownBy hg fun j o ej hj => ?_)).trans (KeepsOthers.setCell _ _ _)
    obtain ⟨_, cur, hc⟩ := own_cell (own_below h2 hb) ej
    rw [hc] at hj
    cases hj
    rfl

/-- what Keys leaves: the keys, in a row of the call's own -/
structure KeysPost (xs : List Int) (w : World) (e : Ending) (w' : World) : Prop where
  ex : ∃ A c, e = .returned (.slice A xs.length c) ∧ w'.ownsRow w.heap.size 3 1 (.slice A xs.length c) xs.length (I8 xs) ∧ Below w.heap.size w w'

end Go.Proofs.Ytpidjekabnnmcaa.pl
