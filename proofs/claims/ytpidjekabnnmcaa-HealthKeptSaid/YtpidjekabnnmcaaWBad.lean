/-
  Given for the seat's laws: the contract of Bad. No condition but those of the theorems.
-/
import Derived.Test.YtpidjekabnnmcaaWIter
namespace Go.Proofs.Ytpidjekabnnmcaa.wn
open Go.RowKit Go.Shelf mem reg
set_option linter.unusedVariables false
attribute [local go_sem] Oper.semAt_some

/-- between two rounds: the two boxes of the function that is ranged over -/
structure Held (B0 n b : Nat) (w W : World) : Prop where
  k : Boxed W (B0 + 1) 3 (.int .i64 (n : Int))
  b : Boxed W (B0 + 2) 41 (.int .u16 (b : Int))
  below : Below B0 w W
theorem held_own {β : Type} {B0 n b B : Nat} {w : World} (hB : B0 ≤ w.heap.size) (hB2 : B0 ≤ B) : OwnFrom B (fun (_ : β) W => Held B0 n b w W) := fun s X Y row hs hg hr =>
  ⟨(boxed_own (β := Unit) (B0 + 1) 3 (fun _ => .int .i64 (n : Int))).from B () X Y row hs.k hg hr, (boxed_own (β := Unit) (B0 + 2) 41 (fun _ => .int .u16 (b : Int))).from B () X Y row hs.b hg hr, ownFrom_below (β := Unit) hB hB2 () X Y row hs.below hg hr⟩
theorem Held.set {B0 n b : Nat} {w W : World} (h : Held B0 n b w W) (v : Value) : Held B0 n b w (W.setCell ⟨B0, 0, none⟩ v) := ⟨h.k.other (by omega) v, h.b.other (by omega) v, h.below.setCell (p := ⟨B0, 0, none⟩) (Nat.le_refl _) v⟩
theorem Held.drew {B0 n b : Nat} {w W : World} (h : Held B0 n b w W) : Held B0 n b w W.drew := ⟨h.k, h.b, h.below.drew⟩
theorem boxed_set {W : World} {B : Nat} {t : TypeId} {v : Value} (h : Boxed W B t v) (u : Value) : Boxed (W.setCell ⟨B, 0, none⟩ u) B t u := Lies.set (cs := #[v]) h 0 u
/-- what the body of a range over a window's outcomes knows ahead of round k -/
theorem own_all {B0 n b B : Nat} {w : World} {t : TypeId} {f : Nat → Value} (hB : B0 ≤ w.heap.size) (hB2 : B0 ≤ B) : OwnFrom B (fun (k : Nat) W => Boxed W B0 t (f k) ∧ Held B0 n b w W) := OwnFrom.and ((boxed_own B0 t f).from B) (held_own hB hB2)

set_option maxRecDepth 100000 in
set_option maxHeartbeats 2000000 in
theorem bad_in (x : Nat) (hx : x < 65536) (w : World) : CallsIn Fence.wide 3 Try.prog 61 #[.int .u16 (x : Int)] w fun e w' => e = .returned (.int .i64 (bads (lst x) : Int)) ∧ Below w.heap.size w w' := by
  have HO := Bx.mk (fun w => outs_any x hx w)
  have hn8 := hk_le x
  have hb8 := hb_256 x
  have hget : ∀ k, k < hk x → (lst x)[k]? = some (bitg (hk x) (hb x) k) := fun k h => L_get h
  have hlen := lst_len x
  generalize hk x = n at *
  generalize hb x = b at *
  generalize lst x = l at *
  have HL := Bx.mk hlen
  have HGET := Bx.mk hget
  clear hlen hget
  refine callsIn_of_wp_marks Try.func61 rfl trivial ?_ rfl
  simp only [Try.ntmps61, List.size_toArray, List.length_cons, List.length_nil, Nat.reduceAdd, Nat.reduceSub, Array.replicate_succ, Array.replicate_zero, List.push_toArray, List.append_toArray, List.nil_append, List.cons_append]
  gi_wp2_with fail
  refine ⟨trivial, (callsIn_wide.2 (HO.out _)).mono ?_⟩
  rintro e w2 ⟨w1, hs, rfl, rfl⟩
  have hz : w1.heap.size = w.heap.size + 1 := by rw [hs.size]; simp
  rw [hz]
  have h0 : Boxed ((w1.alloc (.cells #[.int .i64 (n : Int)] 3)).alloc (.cells #[.int .u16 (b : Int)] 41)) w.heap.size 3 (.int .i64 (bads (l.take 0) : Int)) := by
    have h1 : Boxed w1 w.heap.size 3 (.int .i64 0) := (show w1.heap[w.heap.size]? = _ by rw [hs.heap]; exact Boxed.new w 3 (.int .i64 0))
    exact (h1.alloc _).alloc _
  have H0 : Held w.heap.size n b w ((w1.alloc (.cells #[.int .i64 (n : Int)] 3)).alloc (.cells #[.int .u16 (b : Int)] 41)) := by
    have b1 := Boxed.new w1 3 (.int .i64 (n : Int))
    have b2 := Boxed.new (w1.alloc (.cells #[.int .i64 (n : Int)] 3)) 41 (.int .u16 (b : Int))
    rw [World.size_alloc] at b2
    rw [hz] at b1 b2
    exact ⟨b1.alloc _, b2, ((((Below.refl w.heap.size w).alloc (Nat.le_refl _) _).trans (hs.below _)).alloc (by omega) _).alloc (by simp; omega) _⟩
  have hz2 : ((w1.alloc (.cells #[.int .i64 (n : Int)] 3)).alloc (.cells #[.int .u16 (b : Int)] 41)).heap.size = w.heap.size + 3 := by simp [hz]
  generalize ((w1.alloc (.cells #[.int .i64 (n : Int)] 3)).alloc (.cells #[.int .u16 (b : Int)] 41)) = w2 at *
  clear hs hz HO
  gi_wp2_with fail
  refine wpIn_range_w rfl (by omega) (gf := 77) (lb := #[.pointer (some ⟨w.heap.size + 1, 0, none⟩), .pointer (some ⟨w.heap.size + 1 + 1, 0, none⟩)]) rfl trivial (enters_of Try.func77 (by kernel_rfl) rfl)
    (I := fun k W => Boxed W w.heap.size 3 (.int .i64 (bads (l.take k) : Int)) ∧ Held w.heap.size n b w W)
    (Y := fun k W => (Boxed W w.heap.size 3 (.int .i64 (bads (l.take k) : Int)) ∧ Held w.heap.size n b w W) ∧ k < n)
    (Ix := fun _ => False)
    (Fin := fun W => Boxed W w.heap.size 3 (.int .i64 (bads (l.take n) : Int)) ∧ Held w.heap.size n b w W)
    (outs1_seq Fence.wide 2 trivial rfl (by omega) w2.heap.size (w.heap.size + 1) (w.heap.size + 2) n b hn8 hb8 _ _ _ _ (fun k W h => ⟨h.2.k.cell, h.2.b.cell⟩) (fun k W h hk => ⟨⟨h.1, h.2.drew⟩, hk⟩) (fun W h => h))
    (fun k => rfl) (own_all (Nat.le_refl _) (by omega)) (OwnFrom.and (own_all (Nat.le_refl _) (by omega)) (ownFrom_pure _ _)) (ownFrom_pure _ _) (OwnFrom.and ((boxed_own _ _ _).from _) (held_own (Nat.le_refl _) (by omega))) ⟨h0, H0⟩
    (fun k => { tmps := #[.int .u16 (x : Int), undef, .int .i64 0, .pointer (some ⟨w.heap.size, 0, none⟩), .bool (bitg n b k), .int .u16 (x : Int), .func (.func 77) #[] #[.pointer (some ⟨w.heap.size + 1, 0, none⟩), .pointer (some ⟨w.heap.size + 1 + 1, 0, none⟩)], .bool (bitg n b k), undef, undef, undef, undef, undef], defers := [] }) ?assign ?body ?done ?stop
  case assign =>
    intro l x W K hK
    gi_wp2
    exact hK
  case body =>
    rintro l1 k W ⟨⟨hB, hH⟩, hk⟩
    have hbt := bads_take (HGET.out k hk)
    have hm := bads_le (l.take k)
    rw [List.length_take] at hm
    generalize bads (l.take (k + 1)) = m2 at *
    generalize bads (l.take k) = m at *
    have hm8 : (m : Int) ≤ 8 := by omega
    have c0 := hB.cell
    have f0 := hB.frozen
    generalize bitg n b k = g at *
    have HB := Bx.mk hB
    have HH := Bx.mk hH
    have HT := Bx.mk hbt
    clear hB hH hbt hm
    cases g with
    | true =>
      gi_wp2
      refine ⟨(KeepsOthers.refl W).from _, ?_, HH.out⟩
      rw [HT.out]
      exact HB.out
    | false =>
      gi_wp2
      refine ⟨(KeepsOthers.setCell W _ _).from _, ?_, HH.out.set _⟩
      rw [HT.out]
      exact boxed_set HB.out _
  case done =>
    rintro D W hD ⟨hB, hH⟩ hK
    rw [List.take_of_length_le (by rw [HL.out]; exact Nat.le_refl _)] at hB
    have c0 := hB.cell
    have hfin := hH.below.trans (belowK_b (w := w) (Nat.le_refl _) W D _ (.deferred none) (by omega) hK rfl rfl)
    have HFIN := Bx.mk hfin
    have HK := Bx.mk hK
    clear hfin hK hB hH
    gi_wp2
    refine ⟨by simp, .inl ⟨_, _, rfl, run_takeDeferred HK.out, ?_⟩⟩
    refine ⟨_, results_tmp rfl _ _ _, ?_⟩
    exact ⟨rfl, HFIN.out⟩
  case stop =>
    rintro D W _ h _
    exact h.elim
theorem bad_any (x : Nat) (hx : x < 65536) (w : World) : Calls Try.prog 61 #[.int .u16 (x : Int)] w fun e w' => e = .returned (.int .i64 (bads (lst x) : Int)) ∧ Below w.heap.size w w' := callsIn_wide.1 (bad_in x hx w)
end Go.Proofs.Ytpidjekabnnmcaa.wn
