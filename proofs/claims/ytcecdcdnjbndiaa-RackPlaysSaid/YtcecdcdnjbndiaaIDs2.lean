/-
  Given for the seat's laws: the contract of IDs. No condition but those of the theorems.
-/
import Derived.Test.YtcecdcdnjbndiaaIds
namespace Go.Proofs.Ytcecdcdnjbndiaa.rack
open Go.RowKit Go.Shelf mem find
set_option linter.unusedVariables false
attribute [local go_sem] Oper.semAt_some

theorem infoInt : (Try.prog.info? 3).map (fun i => (i.zero, i.size, i.bytes)) = some (some (.int .i64 0), 1, 8) := by kernel_rfl

def I8 (xs : List Int) : List Value := xs.map (Value.int .i64)

/-- what IDs leaves -/
structure IdsPost (w : World) (xs : List Int) (e : Ending) (w' : World) : Prop where
  ex : ∃ A c, e = .returned (.slice A xs.length c) ∧ w'.ownsRow w.heap.size 3 1 (.slice A xs.length c) xs.length (I8 xs) ∧ Below w.heap.size w w'

set_option maxHeartbeats 400000 in
theorem idsnil_any {w : World} {p : Option Addr} (hm : Calls Try.prog 26 #[.pointer p] w fun e w' => e = .returned (.bool false) ∧ w = w') :
    Calls Try.prog 19 #[.pointer p] w fun e w' => e = .returned (.slice none 0 0) ∧ w = w' := by
  have HM := Lib.hid hm
  clear hm
  go_enter Try.func19, Try.ntmps19
  go_wp2_with (go_at_call 26; refine HM.out.mono ?_; rintro e w' ⟨rfl, rfl⟩)
  go_ret
  exact ⟨rfl, rfl⟩

theorem own_form {w : World} {base : Nat} {t : TypeId} {size : Nat} {v : Value} {n : Nat} {xs : List Value} (h : w.ownsRow base t size v n xs) : ∃ A c, v = .slice A n c := by
  rcases h.2 with ⟨rfl, rfl⟩ | ⟨g, cap, cur, rfl, _⟩
  · exact ⟨none, 0, rfl⟩
  · exact ⟨_, _, rfl⟩

set_option maxRecDepth 100000 in
set_option maxHeartbeats 4000000 in
theorem ids_in {w : World} {S : Nat → Prop} {r N : Nat} {nx st : Int} {R : List (Int × Int)} (h : Rk w S r N nx st R) : CallsIn Fence.wide 3 Try.prog 19 #[.pointer (some ⟨r, 0, none⟩)] w (IdsPost w (R.map (·.1))) := by
  obtain ⟨i0, hi, hz0, hz1, hz2⟩ := info_parts infoInt
  have hlen : R.length ≤ 64 := Nat.le_trans h.len h.size
  have HM := Lib.hid (made_yes h)
  obtain ⟨A, c, h1, h2, h3⟩ := h.ex
  have hrl := h1.lt
  have HH := Lib.hid h1
  have HR := Lib.hid h2
  clear h h1 h2 h3
  refine callsIn_of_wp_marks Try.func19 rfl trivial ?_ rfl
  simp only [Try.ntmps19, List.size_toArray, List.length_cons, List.length_nil, Nat.reduceAdd, Nat.reduceSub, Array.replicate_succ, Array.replicate_zero, List.push_toArray, List.append_toArray, List.nil_append, List.cons_append]
  gi_wp2_with (refine ⟨trivial, ?_⟩; gi_at_call 26; refine (callsIn_wide.2 HM.out).mono ?_; rintro e w' ⟨rfl, rfl⟩)
  refine ⟨trivial, (callsIn_wide.2 (ids_any _ _)).mono ?_⟩
  rintro e w1 ⟨rfl, rfl⟩
  gi_wp2_with fail
  have bO := Boxed.new w 40 (.slice none 0 0)
  have bN := Boxed.new (w.alloc (.cells #[.slice none 0 0] 40)) 71 (.pointer (some ⟨r, 1, none⟩))
  rw [World.size_alloc] at bN
  have hB0 : Below w.heap.size w ((w.alloc (.cells #[.slice none 0 0] 40)).alloc (.cells #[.pointer (some ⟨r, 1, none⟩)] 71)) := ((Below.refl _ w).alloc (Nat.le_refl _) _).alloc (by simp) _
  refine wpIn_rangeFunc_ownG rfl (by omega) (gf := 41) (lb := #[.pointer (some ⟨w.heap.size + 1, 0, none⟩)]) rfl trivial (enters_of Try.func41 (by kernel_rfl) rfl)
    (ids1_stops Fence.wide 2 trivial rfl (by omega) (w.heap.size + 1) w.heap.size r c A R hlen _ (by simp; omega) bN.cell (by simp) (by simp; omega) ((hB0.cell (p := ⟨r, 2, none⟩) hrl).trans (HH.out.cell 2))
      (RowsAt.keep HR.out (Keep.of_below hB0 (fun _ => False)) (Nat.le_refl _) (fun _ _ hf => hf)) (fun g e => own_lt HR.out e)) belowK_t (belowK_b (by simp; omega)) (Below.refl _ _) (fun _ => rfl)
    (fun pre W => (∃ v, Boxed W w.heap.size 40 v ∧ W.ownsRow w.heap.size 3 1 v pre.length (I8 pre) ∧ True) ∧ Below w.heap.size w W)
    (fun _ _ _ => False)
    (OwnFrom.and (Own.from (holdsRow_own w.heap.size w.heap.size 40 3 1 (fun pre : List Int => pre.length) (fun pre => I8 pre) (fun pre v => True)) _) (ownFrom_below (Nat.le_refl _) (by simp; omega)))
    (fun _ _ _ _ _ hs _ _ => hs)
    ⟨⟨_, bO.alloc _, World.ownsRow_nil _ _ _ _, trivial⟩, hB0⟩
    (fun x => { tmps := #[.pointer (some ⟨r, 0, none⟩), undef, .slice none 0 0, .pointer (some ⟨w.heap.size, 0, none⟩), .int .i64 x, .pointer (some ⟨r, 0, none⟩), .bool true, .bool false, .pointer (some ⟨r, 0, none⟩), .pointer (some ⟨r, 0, none⟩), .pointer (some ⟨r, 1, none⟩),
      .func (.func 41) #[] #[.pointer (some ⟨w.heap.size + 1, 0, none⟩)], .int .i64 x, undef, undef, undef, undef, undef], defers := [] }) ?assign ?body ?done ?stop
  case assign =>
    intro l x W K hK
    gi_wp2
    exact hK
  case body =>
    rintro l pre x W ⟨⟨v, hv, hrow, _⟩, hB⟩ hlt
    have hc := hv.cell
    have e1 : I8 (pre ++ [x]) = I8 pre ++ [.int .i64 x] := by simp [I8]
    have E1 := Lib.hid e1
    clear e1
    gi_wp2_with (gi_at_builtin; refine wpListIn_append_own _ rfl _ _ 40 rfl w.heap.size 3 i0 (.int .i64 0) 1 8 Try.underlying40 hi hz0 hz1 hz2 rfl (by decide) _ _ _ rfl (hrow.alloc _) ⟨W.heap.size, 0, none⟩ 1 1 [.int .i64 x] rfl rfl (cell_one_new _ _ _) (by simp [Value.oneCell']) (by unfold maxLen; omega) (by omega) (by have := hB.size; simp; omega) ?_; intro v' w1 hown' hgrow _; obtain ⟨g', cap', rfl⟩ := ownsRow_succ hown'; obtain ⟨hv1, hv2, hr2, hk2, hb2⟩ := hv.appended (by decide) hrow hB.size (Nat.le_refl _) hown' hgrow; have hc1 := hv1.cell; have hf1 := hv1.frozen)
    exact ⟨hk2.from _, hb2, ⟨_, hv2, by rw [E1.out]; simpa using hr2, trivial⟩, hB.trans hb2⟩
  case done =>
    rintro D ys W hD rfl ⟨⟨v, hv, hrow, _⟩, hB⟩ hK
    obtain ⟨A', c', rfl⟩ := own_form hrow
    have hc := hv.cell
    have hfin : IdsPost w (R.map (·.1)) (.returned (.slice A' (R.map (·.1)).length c')) (W.putObj D (.deferred none)) :=
      ⟨A', c', rfl, ownsRow_putObj hrow _ hK rfl, hB.trans (belowK_b (w := w) (Nat.le_refl _) W D _ _ (by simp at hD; omega) hK rfl rfl)⟩
    have HFIN := Lib.hid hfin
    have HK := Lib.hid hK
    clear hfin hrow hB hv
    generalize (R.map (·.1)).length = n at *
    gi_wp2
    refine ⟨by simp, .inl ⟨_, _, rfl, run_takeDeferred HK.out, ?_⟩⟩
    refine ⟨_, results_tmp rfl _ _ _, ?_⟩
    exact HFIN.out
  case stop =>
    rintro D c pre W _ _ h _
    exact h.elim

theorem ids_of {w : World} {S : Nat → Prop} {r N : Nat} {nx st : Int} {R : List (Int × Int)} (h : Rk w S r N nx st R) : Calls Try.prog 19 #[.pointer (some ⟨r, 0, none⟩)] w (IdsPost w (R.map (·.1))) := callsIn_wide.1 (ids_in h)

end Go.Proofs.Ytcecdcdnjbndiaa.rack
