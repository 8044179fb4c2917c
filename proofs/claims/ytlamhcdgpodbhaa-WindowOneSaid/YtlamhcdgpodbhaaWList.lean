/-
  Given for the seat's laws: the contract of List. No condition but those of the theorems.
-/
import Derived.Test.YtlamhcdgpodbhaaWBad
namespace Go.Proofs.Ytlamhcdgpodbhaa.wn
open Go.RowKit Go.Shelf mem reg
set_option linter.unusedVariables false
attribute [local go_sem] Oper.semAt_some

theorem infoBool : (Try.prog.info? 4).map (fun i => (i.zero, i.size, i.bytes)) = some (some (.bool false), 1, 1) := by kernel_rfl
/-- what List leaves: outcomes of the call's own -/
structure Listed (w : World) (l : Out) (e : Ending) (w' : World) : Prop where
  ex : ∃ A c, e = .returned (.slice A l.length c) ∧ w'.ownsRow w.heap.size 4 1 (.slice A l.length c) l.length (bv l) ∧ Below w.heap.size w w'
/-- the box of the list on the way -/
def Grows (B0 : Nat) (l : Out) (k : Nat) (W : World) : Prop := ∃ v, Boxed W B0 24 v ∧ W.ownsRow B0 4 1 v k (bv (l.take k)) ∧ True
theorem grows_own (B0 B : Nat) (l : Out) : OwnFrom B (fun (k : Nat) W => Grows B0 l k W) := Own.from (holdsRow_own B0 B0 24 4 1 (fun k : Nat => k) (fun k => bv (l.take k)) (fun k v => True)) _

set_option maxRecDepth 100000 in
set_option maxHeartbeats 4000000 in
theorem list_in (x : Nat) (hx : x < 65536) (w : World) : CallsIn Fence.wide 3 Try.prog 12 #[.int .u16 (x : Int)] w (Listed w (lst x)) := by
  obtain ⟨i0, hi, hz0, hz1, hz2⟩ := info_parts infoBool
  have HO := Bx.mk (fun w => outs_any x hx w)
  have hn8 := hk_le x
  have hb8 := hb_256 x
  have hget : ∀ k, k < hk x → (lst x)[k]? = some (bitg (hk x) (hb x) k) := fun k h => L_get h
  have hlen := lst_len x
  generalize hk x = n at *
  generalize hb x = b at *
  generalize lst x = l at *
  have HL := Bx.mk hlen
  have HGET := Bx.mk hget
  clear hlen hget
  refine callsIn_of_wp_marks Try.func12 rfl trivial ?_ rfl
  simp only [Try.ntmps12, List.size_toArray, List.length_cons, List.length_nil, Nat.reduceAdd, Nat.reduceSub, Array.replicate_succ, Array.replicate_zero, List.push_toArray, List.append_toArray, List.nil_append, List.cons_append]
  gi_wp2_with fail
  refine ⟨trivial, (callsIn_wide.2 (HO.out _)).mono ?_⟩
  rintro e w2 ⟨w1, hs, rfl, rfl⟩
  have hz : w1.heap.size = w.heap.size + 1 := by rw [hs.size]; simp
  rw [hz]
  have h0 : Grows w.heap.size l 0 ((w1.alloc (.cells #[.int .i64 (n : Int)] 3)).alloc (.cells #[.int .u16 (b : Int)] 23)) := by
    have h1 : Boxed w1 w.heap.size 24 (.slice none 0 0) := (show w1.heap[w.heap.size]? = _ by rw [hs.heap]; exact Boxed.new w 24 (.slice none 0 0))
    exact ⟨_, (h1.alloc _).alloc _, World.ownsRow_nil _ _ _ _, trivial⟩
  have H0 : Held w.heap.size n b w ((w1.alloc (.cells #[.int .i64 (n : Int)] 3)).alloc (.cells #[.int .u16 (b : Int)] 23)) := by
    have b1 := Boxed.new w1 3 (.int .i64 (n : Int))
    have b2 := Boxed.new (w1.alloc (.cells #[.int .i64 (n : Int)] 3)) 23 (.int .u16 (b : Int))
    rw [World.size_alloc] at b2
    rw [hz] at b1 b2
    exact ⟨b1.alloc _, b2, ((((Below.refl w.heap.size w).alloc (Nat.le_refl _) _).trans (hs.below _)).alloc (by omega) _).alloc (by simp; omega) _⟩
  have hsz2 : ((w1.alloc (.cells #[.int .i64 (n : Int)] 3)).alloc (.cells #[.int .u16 (b : Int)] 23)).heap.size = w.heap.size + 3 := by simp [hz]
  generalize ((w1.alloc (.cells #[.int .i64 (n : Int)] 3)).alloc (.cells #[.int .u16 (b : Int)] 23)) = w2 at *
  clear hs hz HO
  gi_wp2_with fail
  refine wpIn_range_w rfl (by omega) (gf := 21) (lb := #[.pointer (some ⟨w.heap.size + 1, 0, none⟩), .pointer (some ⟨w.heap.size + 1 + 1, 0, none⟩)]) rfl trivial (enters_of Try.func21 (by kernel_rfl) rfl)
    (I := fun k W => Grows w.heap.size l k W ∧ Held w.heap.size n b w W)
    (Y := fun k W => (Grows w.heap.size l k W ∧ Held w.heap.size n b w W) ∧ k < n)
    (Ix := fun _ => False)
    (Fin := fun W => Grows w.heap.size l n W ∧ Held w.heap.size n b w W)
    (outs1_seq Fence.wide 2 trivial rfl (by omega) w2.heap.size (w.heap.size + 1) (w.heap.size + 2) n b hn8 hb8 _ _ _ _ (fun k W h => ⟨h.2.k.cell, h.2.b.cell⟩) (fun k W h hk => ⟨⟨h.1, h.2.drew⟩, hk⟩) (fun W h => h))
    (fun k => rfl) (OwnFrom.and (grows_own _ _ _) (held_own (Nat.le_refl _) (by omega))) (OwnFrom.and (OwnFrom.and (grows_own _ _ _) (held_own (Nat.le_refl _) (by omega))) (ownFrom_pure _ _)) (ownFrom_pure _ _) (OwnFrom.and (fun _ => grows_own _ _ l n) (held_own (Nat.le_refl _) (by omega))) ⟨h0, H0⟩
    (fun k => { tmps := #[.int .u16 (x : Int), undef, .slice none 0 0, .pointer (some ⟨w.heap.size, 0, none⟩), .bool (bitg n b k), .int .u16 (x : Int), .func (.func 21) #[] #[.pointer (some ⟨w.heap.size + 1, 0, none⟩), .pointer (some ⟨w.heap.size + 1 + 1, 0, none⟩)], .bool (bitg n b k), undef, undef, undef, undef, undef], defers := [] }) ?assign ?body ?done ?stop
  case assign =>
    intro l x W K hK
    gi_wp2
    exact hK
  case body =>
    rintro l1 k W ⟨⟨⟨v, hv, hrow, _⟩, hH⟩, hk⟩
    have e1 : bv (l.take (k + 1)) = bv (l.take k) ++ [.bool (bitg n b k)] := by rw [take_get (HGET.out k hk), bv_snoc]
    have E1 := Bx.mk e1
    have hc := hv.cell
    have hB := hH.below
    clear e1
    gi_wp2_with (gi_at_builtin; refine wpListIn_append_own _ rfl _ _ 24 rfl w.heap.size 4 i0 (.bool false) 1 1 Try.underlying24 hi hz0 hz1 hz2 rfl (by decide) _ _ _ rfl (hrow.alloc _) ⟨W.heap.size, 0, none⟩ 1 1 [.bool (bitg n b k)] rfl rfl (cell_one_new _ _ _) (by simp [Value.oneCell']) (by unfold maxLen; omega) (by omega) (by have := hB.size; simp; omega) ?_; intro v' w3 hown' hgrow _; obtain ⟨g', cap', rfl⟩ := ownsRow_succ hown'; obtain ⟨hv1, hv2, hr2, hk2, hb2⟩ := hv.appended (by decide) hrow hB.size (Nat.le_refl _) hown' hgrow; have hc1 := hv1.cell; have hf1 := hv1.frozen)
    refine ⟨hk2.from _, ⟨_, hv2, ?_, trivial⟩, ((hH.k.alloc _).kept hgrow (hH.k.not_row (by decide) hrow)).other (by omega) _, ((hH.b.alloc _).kept hgrow (hH.b.not_row (by decide) hrow)).other (by omega) _, hB.trans hb2⟩
    rw [E1.out]
    exact hr2
  case done =>
    rintro D W hD ⟨⟨v, hv, hrow, _⟩, hH⟩ hK
    rw [List.take_of_length_le (by rw [HL.out]; exact Nat.le_refl _)] at hrow
    have HLL := HL.out
    subst HLL
    obtain ⟨A', c', rfl⟩ := rown_form hrow
    have c0 := hv.cell
    have hfin : Listed w l (.returned (.slice A' l.length c')) (W.putObj D (.deferred none)) :=
      ⟨A', c', rfl, ownsRow_putObj hrow _ hK rfl, hH.below.trans (belowK_b (w := w) (Nat.le_refl _) W D _ _ (by omega) hK rfl rfl)⟩
    have HFIN := Bx.mk hfin
    have HK := Bx.mk hK
    clear hfin hK hrow hH hv
    generalize l.length = n at *
    gi_wp2
    refine ⟨by simp, .inl ⟨_, _, rfl, run_takeDeferred HK.out, ?_⟩⟩
    refine ⟨_, results_tmp rfl _ _ _, ?_⟩
    exact HFIN.out
  case stop =>
    rintro D W _ h _
    exact h.elim
theorem list_any (x : Nat) (hx : x < 65536) (w : World) : Calls Try.prog 12 #[.int .u16 (x : Int)] w (Listed w (lst x)) := callsIn_wide.1 (list_in x hx w)
end Go.Proofs.Ytlamhcdgpodbhaa.wn
