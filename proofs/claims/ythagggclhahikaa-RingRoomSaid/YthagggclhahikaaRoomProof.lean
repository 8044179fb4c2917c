/-
  PROVED HERE: 'Rows.RingRoomSaid': at every input RingRoom returns true: Len and Room come to the size; just as much is put as there is room, or as there are bytes; what does not fit leaves no trace; the input reads afterwards as it read before. No condition.
-/
import Derived.Test.YthagggclhahikaaRoom
import Derived.Test.YthagggclhahikaaLiftActs
namespace Go.Proofs.Ythagggclhahikaa.room
open Go.ChangeShapes Go.WideShapes Go.ChangeAt Go.RowKit Go.Joins acts mem api lift order
set_option linter.unusedVariables false

theorem walk (size : Int) (A : Option Addr) (c : Nat) (acts : List ActD) (YA : Option Addr) (yl yc : Nat) (bys : List Int) (w : World) (hm : acts.length ≤ maxLen) (hat : ActsAt w A acts) (hok : ActsOk w acts) (hy : Src w (fun g => g < w.heap.size) YA yl yc bys) :
    Calls Try.prog 6 #[.int .i64 size, .slice A acts.length c, .slice YA yl yc] w fun e w' => e = .returned (.bool true) ∧ Below w.heap.size w w' := by
  by_cases h : size < 1 ∨ 300 < size ∨ greatB acts = true ∨ 300 < yl
  · exact room_out size A c acts YA yl yc w hm hat h
  · obtain ⟨N, rfl⟩ : ∃ N : Nat, size = (N : Int) := ⟨size.toNat, by omega⟩
    refine room_in N A c acts YA yl yc bys w (by omega) (by omega) (by omega) ?_ hm hat hok hy
    rcases hg : greatB acts with _ | _
    · rfl
    · exact absurd (.inr (.inr (.inl hg))) h

set_option maxRecDepth 100000 in
theorem lifted (os : Os) (started : os.Started) (H : Type) (enc : TypeId × Value → H) :
    ReturnsInHanded {} Try.checked os 6 .any (Rows.ringRoomSpec.pre6 enc Try.prog Try.f6 Rows.ringRoomRow.domain false) (Rows.ringRoomSpec.post enc Try.prog Try.f6 false true false false) := by
  refine returnsInHanded_of_change (C := Try.checked) own started (by kernel_rfl) Try.func6
    (ChangeSpec.witness6 (enc := enc) (C := Try.checked) false ⟨#[], #[.int .i64 0, .slice none 0 0, .slice none 0 0], []⟩ 8 (by kernel_rfl) (by kernel_rfl) (by kernel_rfl) (by kernel_rfl)) ?_
  intro W base args ds gs before hval0 hW hcnd _
  have hval : ∀ (j : Nat) t v, Try.f6.params[j]? = some t → args[j]? = some v → Value.okWide Try.prog W .any base t v := hval0
  have hW' := hW
  obtain ⟨p, q, hA0, hV, rfl, hfz, hnd⟩ := hW
  have hA : DataW.TrodAll enc Try.prog W 0 (fun _ => true) true Try.f6.params.toList args.toList ds p := hA0
  rw [Try.params6] at hA hval
  obtain ⟨v0, vs0, d0, ds0, p0, q0, hargs, rfl, rfl, h0, r0⟩ := trodAll_cons hA
  obtain ⟨v1, vs1, d1, ds1, p1, q1, rfl, rfl, rfl, h1, r1⟩ := trodAll_cons r0
  obtain ⟨v2, vs2, d2, ds2, p2, q2, rfl, rfl, rfl, h2, r2⟩ := trodAll_cons r1
  obtain ⟨rfl, rfl, rfl⟩ := trodAll_nil r2
  obtain rfl : args = #[v0, v1, v2] := by cases args; simp_all
  obtain ⟨rfl, rfl⟩ := trodVars_none hV
  have k1 := h1
  have lt1 : ∀ x ∈ p1, x.block < W.heap.size := by obtain ⟨m, hm⟩ := k1; exact DataW.trod_lt m _ _ _ hm
  have k2 := h2
  have lt2 : ∀ x ∈ p2, x.block < W.heap.size := by obtain ⟨m, hm⟩ := k2; exact DataW.trod_lt m _ _ _ hm
  obtain ⟨A1, c1, acts1, rfl, hm1, hat1, hok1⟩ := acts_of_Trod (hval 1 22 v1 rfl rfl) h1
  obtain ⟨A2, l2, c2, bs2, rfl, hs2⟩ := src_of_Trod (hval 2 31 v2 rfl rfl) h2
  obtain ⟨a0, rfl, rfl, rfl, w0⟩ := open_int Try.underlying3 (hval 0 3 v0 rfl rfl) h0
  clear hA0 hval0
  refine (walk a0 A1 c1 acts1 A2 l2 c2 bs2 W hm1 hat1 hok1 hs2).mono fun e W' ⟨he, bel⟩ => ?_
  subst he
  exact ⟨_, rfl, _, _, _, [], _, [], hW', trodAll_mk1 (shut_bool Try.underlying4 _),
    (trodAll_cons_mk (shut_int Try.underlying3 w0) (trodAll_cons_mk (Below.trod laidOut (by kernel_rfl) (of_decide_eq_true (by kernel_rfl)) k1 bel lt1) (trodAll_cons_mk (Below.trod laidOut (by kernel_rfl) (of_decide_eq_true (by kernel_rfl)) k2 bel lt2) trodAll_mk0))), rfl, bel.frame _, fun h => by cases h⟩

theorem over : Rows.ringRoomRow.holds Try.pinned (OpenSpec.ofChange Rows.ringRoomSpec) :=
  OpenClaim.holds_of_wide 6 Try.f6 rfl rfl rfl rfl rfl rfl rfl ⟨rfl, rfl, rfl, rfl, rfl⟩ rfl rfl rfl rfl rfl (by kernel_rfl) Try.func6 (by kernel_rfl)
    (of_decide_eq_true (by kernel_rfl)) (by unfold Func.isWrapper; first | (rw [if_pos (by decide +kernel)]; kernel_rfl) | (rw [if_neg (by decide +kernel)]; exact ⟨rfl, rfl⟩))
    (fun os started H enc _ => lifted os started H enc)

theorem proved : Rows.RingRoomSaid := over
#print axioms proved
end Go.Proofs.Ythagggclhahikaa.room
