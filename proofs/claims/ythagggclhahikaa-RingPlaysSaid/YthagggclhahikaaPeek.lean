/-
  Given for the seat's laws: the contracts of Peek and Take over a made ring. No condition but those of the theorems.
-/
import Derived.Test.YthagggclhahikaaPut
import Derived.RangeFuncBox
import Derived.Lib.SmallJoins
namespace Go.Proofs.Ythagggclhahikaa.peek
open Go.RowKit mem ring pieces iter reg plain put Go.Shelf
set_option linter.unusedVariables false
attribute [local go_sem] Oper.semAt_some

/-- what holds between two rounds of Peek's loop -/
structure PeekInv (w W : World) (b s L R N first h n : Nat) (zs : List Int) (pre : List (Pc N)) : Prop where
  ring : IsRing W b s N first h zs
  boxes : Boxes W R b N first 0 n
  box : ∃ A c, Lies W L 31 #[.slice A (readAll zs (pre.map (·.1))).length c] ∧ W.ownsRow w.heap.size 5 1 (.slice A (readAll zs (pre.map (·.1))).length c) (readAll zs (pre.map (·.1))).length (B8 (readAll zs (pre.map (·.1))))
  below : Below w.heap.size w W

theorem own_ne {W : World} {B g t : Nat} {e : TypeId} {cs : Array Value} {v : Value} {n : Nat} {xs : List Value} (h : W.ownsRow B e 1 v n xs) (hl : Lies W g t cs) (hne : e ≠ t) : some g ≠ v.ownBlock := by
  rcases h.2 with ⟨rfl, _⟩ | ⟨g', cap, cur, rfl, _, hh, _⟩
  · simp [Value.ownBlock]
  · intro e'
    have : g = g' := by simpa [Value.ownBlock] using e'
    subst this
    exact Lies.apart (t := e) (t' := t) (show Lies W g e cur from hh) hl hne rfl

theorem own_cells {W : World} {B : Nat} {e : TypeId} {v : Value} {n : Nat} {xs : List Value} (h : W.ownsRow B e 1 v n xs) {j : Nat} {o : Obj} (e' : v.ownBlock = some j) (ho : W.heap[j]? = some o) : o.isCells = true := by
  rcases h.2 with ⟨rfl, _⟩ | ⟨g', cap, cur, rfl, _, hh, _⟩
  · simp [Value.ownBlock] at e'
  · have : g' = j := by simpa [Value.ownBlock] using e'
    subst this
    rw [hh] at ho
    cases ho
    rfl

theorem own_ge {W : World} {B : Nat} {e : TypeId} {v : Value} {n : Nat} {xs : List Value} (h : W.ownsRow B e 1 v n xs) {j : Nat} (e' : v.ownBlock = some j) : B ≤ j := by
  rcases h.2 with ⟨rfl, _⟩ | ⟨g', cap, cur, rfl, hb, _⟩
  · simp [Value.ownBlock] at e'
  · have : g' = j := by simpa [Value.ownBlock] using e'
    omega

theorem peekInv_own {w : World} {b s L R N first h n : Nat} {zs : List Int} (B : Nat) (hw : w.heap.size ≤ B) : OwnFrom B (fun (pre : List (Pc N)) W => PeekInv w W b s L R N first h n zs pre) := by
  intro pre W W' row hi hg hr
  have hne : ∀ {g t cs}, Lies W g t cs → some g ≠ row := fun hl e => by
    obtain ⟨_, o, ho, hc⟩ := hr _ e.symm
    unfold Lies at hl
    rw [hl] at ho
    cases ho
    cases hc
  obtain ⟨A, c, hl, ho⟩ := hi.box
  refine ⟨hi.ring.same (hg.block _ hi.ring.head.lt (hne hi.ring.head)) (hg.block _ hi.ring.row.lt (hne hi.ring.row)),
    ⟨hi.boxes.x0.grown hg (hne hi.boxes.x0), hi.boxes.x1.grown hg (hne hi.boxes.x1), hi.boxes.x2.grown hg (hne hi.boxes.x2), hi.boxes.x3.grown hg (hne hi.boxes.x3)⟩, ⟨A, c, hl.grown hg (hne hl), ho.kept hg ?_⟩, ?_⟩
  · cases hob : (Value.slice A (readAll zs (pre.map (·.1))).length c).ownBlock with
    | none => exact .inl rfl
    | some j =>
      refine .inr fun e => ?_
      obtain ⟨_, o, hoo, hc⟩ := hr j e.symm
      rw [own_cells ho hob hoo] at hc
      cases hc
  · exact hi.below.grown hg hi.below.size (fun k e => by have := (hr k e).1; omega)

theorem readAll_le {N : Nat} (zs : List Int) (pre : List (Pc N)) : (readAll zs (pre.map (·.1))).length ≤ pre.length * N := by
  induction pre with
  | nil => simp [readAll]
  | cons x r ih =>
    have e : readAll zs ((x :: r).map (·.1)) = (zs.drop x.1.1).take x.1.2 ++ readAll zs (r.map (·.1)) := by simp [readAll]
    rw [e, List.length_append, List.length_cons, Nat.succ_mul]
    have : ((zs.drop x.1.1).take x.1.2).length ≤ N := by
      rw [List.length_take]
      have := x.2
      omega
    omega

/-- what Peek returns: bytes of the call's own -/
def Peeks (zs : List Int) (first k : Nat) (w : World) (e : Ending) (w' : World) : Prop :=
  ∃ A c, e = .returned (.slice A k c) ∧ w'.ownsRow w.heap.size 5 1 (.slice A k c) k (B8 (held zs first k)) ∧ Below w.heap.size w w'

set_option maxHeartbeats 400000 in
theorem peek_none {b s N first h : Nat} {zs : List Int} (w : World) (hring : IsRing w b s N first h zs) (n : Int) (hn : n ≤ 0 ∨ h = 0) :
    Calls Try.prog 19 #[.pointer (some ⟨b, 0, none⟩), .int .i64 n] w fun e w' => e = .returned (.slice none 0 0) ∧ w = w' := by
  have hlen := Lib.hid (len_any w hring)
  have hm1 : (if (h : Int) < n then (h : Int) else n) ≤ 0 := by split <;> omega
  clear hn hring
  go_enter Try.func19, Try.ntmps19
  go_wp2_with (go_at_call 21; refine hlen.out.mono ?_; rintro e w' ⟨rfl, rfl⟩)
  all_goals go_ret
  all_goals exact ⟨rfl, rfl⟩

theorem lies_own_lt {w : World} {B g n c k : Nat} {e : TypeId} {xs : List Value} (h : w.ownsRow B e 1 (.slice (some ⟨g, 0, none⟩) n c) k xs) : g < w.heap.size := by
  rcases h.2 with ⟨h0, _⟩ | ⟨g', cap, cur, hv, _, hh, _⟩
  · cases h0
  · simp only [Value.slice.injEq, Option.some.injEq, Addr.mk.injEq] at hv
    obtain ⟨⟨rfl, _⟩, _⟩ := hv
    exact (Array.getElem?_eq_some_iff.1 hh).1

theorem below_grown {w w' : World} {B : Nat} (h : Below B w w') (hB : w.heap.size ≤ B := by simp) : w.grownBy w' none := ⟨h.os, h.tape, h.output, h.size, fun k hk _ => h.block k (by omega)⟩

theorem own_form {w : World} {B : Nat} {e : TypeId} {v : Value} {k : Nat} {xs : List Value} (h : w.ownsRow B e 1 v k xs) : ∃ A c, v = .slice A k c := by
  rcases h.2 with ⟨rfl, rfl⟩ | ⟨g', cap, cur, hv, _⟩
  · exact ⟨none, 0, rfl⟩
  · exact ⟨_, _, hv⟩

/-- one round of Peek's loop, behind its body -/
theorem peek_round {w W w2 : World} {b s L R N first h n cc cc2 : Nat} {zs rs ns : List Int} {pre : List (Pc N)} {x : Pc N} {A A2 : Option Addr} (hrs : rs = readAll zs (pre.map (·.1))) (hns : ns = (zs.drop x.1.1).take x.1.2)
    (hi : PeekInv w W b s L R N first h n zs pre) (ho : W.ownsRow w.heap.size 5 1 (.slice A rs.length cc) rs.length (B8 rs)) (hl : Lies W L 31 #[.slice A rs.length cc])
    (ho2 : w2.ownsRow w.heap.size 5 1 (.slice A2 (rs.length + x.1.2) cc2) (rs.length + x.1.2) (B8 rs ++ B8 ns)) (hl2 : Lies w2 L 31 #[.slice A rs.length cc]) (hg : W.grownBy w2 (Value.slice A rs.length cc).ownBlock) (hsw : s < w.heap.size) (hLw : w.heap.size ≤ L) :
    KeepsOthers W (w2.setCell ⟨L, 0, none⟩ (.slice A2 (rs.length + x.1.2) cc2)) ∧ KpOf b R W (w2.setCell ⟨L, 0, none⟩ (.slice A2 (rs.length + x.1.2) cc2)) ∧
      PeekInv w (w2.setCell ⟨L, 0, none⟩ (.slice A2 (rs.length + x.1.2) cc2)) b s L R N first h n zs (pre ++ [x]) := by
  have hsame : ∀ g, g < W.heap.size → some g ≠ (Value.slice A rs.length cc).ownBlock → g ≠ L → (w2.setCell ⟨L, 0, none⟩ (.slice A2 (rs.length + x.1.2) cc2)).heap[g]? = W.heap[g]? := fun g h1 h2 h3 =>
    (Below.heap_setCell _ _ _ _ h3).trans (hg.block g h1 h2)
  have kept : ∀ {g t cs}, Lies W g t cs → t ≠ 5 → t ≠ 31 → (w2.setCell ⟨L, 0, none⟩ (.slice A2 (rs.length + x.1.2) cc2)).heap[g]? = W.heap[g]? := fun hx h5 h31 =>
    hsame _ hx.lt (own_ne ho hx (Ne.symm h5)) (hx.apart hl h31)
  have hnl : ns.length = x.1.2 := by
    have := x.2
    rw [hns, List.length_take, List.length_drop, hi.ring.len]
    omega
  have hread : readAll zs ((pre ++ [x]).map (·.1)) = rs ++ ns := by rw [List.map_append, List.map_singleton, readAll_snoc, ← hrs, ← hns]
  have hsrow : some s ≠ (Value.slice A rs.length cc).ownBlock := fun e => by have := own_ge ho e.symm; omega
  refine ⟨(KeepsOthers.of_grownBy hg (fun j o e ho' => own_cells ho e ho')).trans (KeepsOthers.setCell _ _ _), ⟨kept hi.ring.head (by decide) (by decide), kept hi.boxes.x0 (by decide) (by decide), kept hi.boxes.x1 (by decide) (by decide), kept hi.boxes.x2 (by decide) (by decide), kept hi.boxes.x3 (by decide) (by decide)⟩, ?_⟩
  refine ⟨hi.ring.same (kept hi.ring.head (by decide) (by decide)) (hsame _ hi.ring.row.lt hsrow (hi.ring.row.apart hl (by decide))),
    ⟨hi.boxes.x0.of_same (kept hi.boxes.x0 (by decide) (by decide)), hi.boxes.x1.of_same (kept hi.boxes.x1 (by decide) (by decide)), hi.boxes.x2.of_same (kept hi.boxes.x2 (by decide) (by decide)), hi.boxes.x3.of_same (kept hi.boxes.x3 (by decide) (by decide))⟩, ⟨A2, cc2, ?_, ?_⟩, ?_⟩
  · rw [hread, List.length_append, hnl]
    exact hl2.set 0 _
  · have e : B8 (rs ++ ns) = B8 rs ++ B8 ns := by simp [B8]
    rw [hread, List.length_append, hnl, e]
    exact ho2.kept (grownBy_setCell' w2 L _) (.inr (Ne.symm (own_ne ho2 hl2 (by decide))))
  · exact (hi.below.grown hg hi.below.size (fun k e => own_ge ho e)).setCell (p := ⟨L, 0, none⟩) hLw _

theorem peek_src {W : World} {b s N first h : Nat} {zs : List Int} (hr : IsRing W b s N first h zs) (x : Pc N) :
    ∀ j u, (B8 ((zs.drop x.1.1).take x.1.2))[j]? = some u → W.cell? ((⟨s, x.1.1, none⟩ : Addr).add j) = some u := by
  intro j u hu
  obtain ⟨z, hz, rfl⟩ := B8_get hu
  rw [List.getElem?_take] at hz
  split at hz
  · rw [List.getElem?_drop] at hz
    have hc := hr.row.cell (x.1.1 + j)
    have : (B8 zs).toArray[x.1.1 + j]? = some (.int .u8 z) := by simp [B8, hz]
    rw [this] at hc
    by_cases hj : j = 0
    · subst hj; simpa [Addr.add] using hc
    · simpa [Addr.add, hj] using hc
  · cases hz

set_option maxRecDepth 100000 in
set_option maxHeartbeats 2000000 in
theorem peek_walk {b s N first h : Nat} {zs : List Int} (w : World) (hring : IsRing w b s N first h zs) (n : Int) (k : Nat) (hk : (k : Int) = if (h : Int) < n then (h : Int) else n) (hpos : 0 < k) :
    CallsIn Fence.wide 3 Try.prog 19 #[.pointer (some ⟨b, 0, none⟩), .int .i64 n] w (Peeks zs first k w) := by
  have hN := hring.first_lt
  have hN4 := hring.most
  have hkh : k ≤ h := by split at hk <;> omega
  have hh := hring.held_le
  have hsw := hring.row.lt
  have hbw := hring.head.lt
  have HRING := Lib.hid hring
  have hm1 : (if (h : Int) < n then (h : Int) else n) = (k : Int) := hk.symm
  have hlen := Lib.hid (len_any w hring)
  obtain ⟨i0, hinf, hz0, hz1, hz2⟩ := info_parts info5
  have HK := Lib.hid hk
  clear hk
  refine callsIn_of_wp_marks Try.func19 rfl trivial ?_ rfl
  simp only [Try.ntmps19, List.size_toArray, List.length_cons, List.length_nil, Nat.reduceAdd, Nat.reduceSub, Array.replicate_succ, Array.replicate_zero, List.push_toArray, List.append_toArray, List.nil_append, List.cons_append]
  gi_wp2_with (first
    | (refine ⟨trivial, ?_⟩; gi_at_call 21; refine (callsIn_wide.2 hlen.out).mono ?_; rintro e w' ⟨rfl, rfl⟩)
    | (gi_at_make; refine wpListIn_make_own _ rfl _ _ 31 rfl w.heap.size 5 i0 (.int .u8 0) 1 Try.underlying31 hinf hz0 hz1 .i64 .i64 _ k rfl rfl rfl (by rw [hz2]; omega) (by unfold maxLen; omega) (Nat.le_refl _) ?_; intro w0 hown0 hg0))
  have hgb : Below w.heap.size w w0 := (Below.refl _ w).grown hg0 (Nat.le_refl _) (fun k e => by cases e)
  have hL0 := lies_own_lt hown0
  have hring1 : IsRing (w0.alloc (.cells #[.slice (some ⟨w.heap.size, 0, none⟩) 0 k] 31)) b s N first h zs :=
    ⟨(hring.head.below hgb hbw).alloc _, (hring.row.below hgb hsw).alloc _, hring.len, hring.first_lt, hring.held_le, hring.most⟩
  have hp : Calls Try.prog 25 #[.pointer (some ⟨b, 0, none⟩), .int .i64 0, .int .i64 (k : Int)] (w0.alloc (.cells #[.slice (some ⟨w.heap.size, 0, none⟩) 0 k] 31)) _ := pieces_any _ hring1 0 k (by omega) (by omega)
  refine ⟨trivial, (callsIn_wide.2 hp).mono ?_⟩
  rintro e w1 ⟨rfl, hbx, hb1⟩
  simp only [World.size_alloc] at hbx hb1 ⊢
  have hL1 : Lies w1 w0.heap.size 31 #[.slice (some ⟨w.heap.size, 0, none⟩) 0 k] := (Lies.new w0 31 _).below hb1 (by omega)
  have hring2 : IsRing w1 b s N first h zs := hring1.same (hb1.block _ (by have := hgb.size; omega)) (hb1.block _ (by have := hgb.size; omega))
  have hown1 : w1.ownsRow w.heap.size 5 1 (.slice (some ⟨w.heap.size, 0, none⟩) 0 k) 0 [] := (hown0.alloc _).kept (below_grown hb1) (.inr (by simp [Value.ownBlock]))
  have hbel1 : Below w.heap.size w w1 := (hgb.alloc hgb.size _).trans (hb1.mono (by have := hgb.size; omega))
  clear hring1 hp hlen hm1 hown0
  gi_wp2_with fail
  refine wpIn_rangeFunc_ownF rfl (by omega) (gf := 27) (lb := #[.pointer (some ⟨w0.heap.size + 1, 0, none⟩), .pointer (some ⟨w0.heap.size + 1 + 1, 0, none⟩), .pointer (some ⟨w0.heap.size + 1 + 2, 0, none⟩), .pointer (some ⟨w0.heap.size + 1 + 3, 0, none⟩)]) rfl trivial (enters_of Try.func27 (by kernel_rfl) rfl)
    (iter_stops Fence.wide 2 trivial rfl (by omega) (w0.heap.size + 1) b s N first 0 k (by omega) hN4 hpos (by omega) w1 _ _ hring2.head.lt hbx.x3.lt hring2.head hbx)
    (fun h k => kp_t h k) (kp_b hring2.head.lt hbx.x3.lt) (Below.refl _ _) (fun _ => rfl)
    (fun pre W => PeekInv w W b s w0.heap.size (w0.heap.size + 1) N first h k zs pre)
    (fun _ _ _ => False)
    (peekInv_own _ hbel1.size) (fun _ _ _ _ _ hf _ _ => hf)
    ?start
    (fun x => { tmps := #[.pointer (some ⟨b, 0, none⟩), .int .i64 (k : Int), undef, undef, .slice none 0 0, .pointer (some ⟨w0.heap.size, 0, none⟩), .slice (some ⟨s, x.1.1, none⟩) x.1.2 x.1.2, .int .i64 n, .pointer (some ⟨b, 0, none⟩), .int .i64 (h : Int),
      .int .i64 (k : Int), .int .i64 (k : Int), .bool false, .int .i64 (k : Int), .slice (some ⟨w.heap.size, 0, none⟩) 0 k, .pointer (some ⟨b, 0, none⟩), .int .i64 (k : Int),
      .func (.func 27) #[] #[.pointer (some ⟨w0.heap.size + 1, 0, none⟩), .pointer (some ⟨w0.heap.size + 1 + 1, 0, none⟩), .pointer (some ⟨w0.heap.size + 1 + 2, 0, none⟩), .pointer (some ⟨w0.heap.size + 1 + 3, 0, none⟩)],
      .slice (some ⟨s, x.1.1, none⟩) x.1.2 x.1.2, undef, undef, undef, undef], defers := [] }) ?assign ?body ?done ?stop
  case start => exact ⟨hring2, hbx, ⟨_, _, hL1, hown1⟩, hbel1⟩
  case assign =>
    intro l' x W K hK
    gi_wp2
    exact hK
  case body =>
    intro l' pre x W hi hlt
    obtain ⟨A, cc, hl, ho⟩ := hi.box
    have hrl := readAll_le zs pre
    have hmul : pre.length * N ≤ 1 * N := Nat.mul_le_mul_right _ (by omega)
    have hx2 := x.2
    have hsrc : ∀ j u, (B8 ((zs.drop x.1.1).take x.1.2))[j]? = some u → W.cell? ((⟨s, x.1.1, none⟩ : Addr).add j) = some u := peek_src hi.ring x
    have hsl : (B8 ((zs.drop x.1.1).take x.1.2)).length = x.1.2 * 1 := by rw [B8_length, List.length_take, List.length_drop, hi.ring.len]; omega
    have c1 : W.cell? ⟨w0.heap.size, 0, none⟩ = some (.slice A (readAll zs (pre.map (·.1))).length cc) := hl.cell 0
    have hbs := hi.below.size
    have HI := Lib.hid hi
    have HL := Lib.hid hl
    have HO := Lib.hid ho
    clear hi hl ho hring hring2 hbx hb1 hL1 hown1 hbel1
    obtain ⟨rs, hrs⟩ : ∃ rs, rs = readAll zs (pre.map (·.1)) := ⟨_, rfl⟩
    rw [← hrs] at HO HL hrl c1
    have HRS := Lib.hid hrs
    clear hrs
    obtain ⟨ns, hns⟩ : ∃ ns, ns = (zs.drop x.1.1).take x.1.2 := ⟨_, rfl⟩
    rw [← hns] at hsrc hsl
    have HNS := Lib.hid hns
    have HSRC := Lib.hid hsrc
    have HSL := Lib.hid hsl
    clear hns hsrc hsl
    gi_wp2_with (gi_at_builtin; refine wpListIn_append_own _ rfl _ _ 31 rfl w.heap.size 5 i0 (.int .u8 0) 1 1 Try.underlying31 hinf hz0 hz1 hz2 rfl (by decide) _ _ _ rfl HO.out ⟨s, x.1.1, none⟩ x.1.2 x.1.2 (B8 ns) rfl HSL.out HSRC.out (B8_one _) (by unfold maxLen; omega) (by omega) hbs ?_; intro v' w2 hown' hgrow _; obtain ⟨A2, cc2, rfl⟩ := own_form hown'; have hgl := HL.out.grown hgrow (own_ne HO.out HL.out (by decide)); have g1 := hgl.cell 0; have g2 := hgl.frozen 0; have HOWN := Lib.hid hown'; have HGL := Lib.hid hgl; have HGR := Lib.hid hgrow; clear hown' hgl hgrow c1)
    exact peek_round HRS.out HNS.out HI.out HO.out HL.out HOWN.out HGL.out HGR.out hsw (by omega)
  case done =>
    rintro D xs W hD rfl hi hK
    obtain ⟨A, cc, hl, ho⟩ := hi.box
    have hread : readAll zs ([one N first 0 k (by omega), two N first 0 k (by omega) (by omega)].map (fun x : Pc N => x.1)) = held zs first k := read_two zs N first k _ _ _ HRING.out.len hN (by omega) hpos rfl rfl rfl
    rw [hread] at hl ho
    rw [length_held] at hl ho
    have c1 : W.cell? ⟨w0.heap.size, 0, none⟩ = some (.slice A k cc) := hl.cell 0
    have HB := Lib.hid hi.below
    have HO := Lib.hid ho
    have HK2 := Lib.hid hK
    have HD := Lib.hid hD
    have hw1 := Lib.hid hbel1.size
    clear hi hl ho hK hD hread hring hring2 hbx hb1 hL1 hown1 hbel1
    gi_wp2
    refine ⟨by simp, .inl ⟨_, _, rfl, run_takeDeferred HK2.out, ?_⟩⟩
    refine ⟨_, results_tmp rfl _ _ _, ?_⟩
    exact ⟨A, cc, rfl, ownsRow_putObj HO.out _ HK2.out rfl, HB.out.grown (grownBy_putObj' _ D _) HB.out.size (fun j e => by cases e; have := HD.out; have := hw1.out; omega)⟩
  case stop =>
    intro D c' pre W _ _ hf _
    exact hf.elim

/-- so many bytes are told for n of h held -/
def kOf (h : Nat) (n : Int) : Nat := (min n (h : Int)).toNat
theorem kOf_le (h : Nat) (n : Int) : kOf h n ≤ h := by unfold kOf; omega
theorem kOf_nat (h n : Nat) : kOf h (n : Int) = min n h := by unfold kOf; omega

theorem own_none (w : World) (B : Nat) (e : TypeId) : w.ownsRow B e 1 (.slice none 0 0) 0 [] := ⟨rfl, .inl ⟨rfl, rfl⟩⟩

/-- **Peek**, whatever is asked -/
theorem peek_any {b s N first h : Nat} {zs : List Int} (w : World) (hring : IsRing w b s N first h zs) (n : Int) :
    Calls Try.prog 19 #[.pointer (some ⟨b, 0, none⟩), .int .i64 n] w (Peeks zs first (kOf h n) w) := by
  by_cases h0 : n ≤ 0 ∨ h = 0
  · refine (peek_none w hring n h0).mono ?_
    rintro e w' ⟨rfl, rfl⟩
    have hk : kOf h n = 0 := by unfold kOf; omega
    rw [hk]
    exact ⟨none, 0, rfl, own_none _ _ _, Below.refl _ _⟩
  · exact callsIn_wide.1 (peek_walk w hring n (kOf h n) (by unfold kOf; split <;> omega) (by unfold kOf; omega))

/-- what Take returns, and leaves -/
def Takes (b s N first h k : Nat) (zs : List Int) (w : World) (e : Ending) (w' : World) : Prop :=
  ∃ A c, e = .returned (.slice A k c) ∧ w'.ownsRow w.heap.size 5 1 (.slice A k c) k (B8 (held zs first k)) ∧ IsRing w' b s N ((first + k) % N) (h - k) zs ∧ Keep w.heap.size (fun g => g = b) w w'

theorem takes_of {b s N first h k c : Nat} {zs : List Int} {w w1 w2 : World} {A : Option Addr} (hring : IsRing w b s N first h zs) (ho : w1.ownsRow w.heap.size 5 1 (.slice A k c) k (B8 (held zs first k))) (hb : Below w.heap.size w w1)
    (hg : Gone b s N first h k zs w1 w2) : Takes b s N first h k zs w (.returned (.slice A k c)) w2 := by
  refine ⟨A, c, rfl, ho.kept (w' := w2) (row := some b) ⟨hg.2.os, hg.2.tape, hg.2.output, hg.2.size, fun j hj hne => hg.2.block j hj (fun e => hne (by rw [e]))⟩ (.inr fun e => ?_), hg.1, (Keep.of_below hb _).trans (hg.2.mono hb.size (fun _ _ e => e))⟩
  have := own_ge ho e
  have := hring.head.lt
  omega

set_option maxHeartbeats 400000 in
/-- **Take**, whatever is asked -/
theorem take_any {b s N first h : Nat} {zs : List Int} (w : World) (hring : IsRing w b s N first h zs) (n : Int) :
    Calls Try.prog 15 #[.pointer (some ⟨b, 0, none⟩), .int .i64 n] w (Takes b s N first h (kOf h n) zs w) := by
  have hp := Lib.hid (peek_any w hring n)
  have hk := kOf_le h n
  have HR := Lib.hid hring
  clear hring
  generalize kOf h n = k at *
  go_enter Try.func15, Try.ntmps15
  go_wp2_with fail
  refine hp.out.mono ?_
  rintro e w1 ⟨A, c, rfl, ho, hb⟩
  have hring1 : IsRing w1 b s N first h zs := HR.out.same (hb.block _ HR.out.head.lt) (hb.block _ HR.out.row.lt)
  have HO := Lib.hid ho
  have HB := Lib.hid hb
  have hs := Lib.hid (skip_taken w1 k hring1 hk)
  clear hring1 ho hb
  go_wp2_with fail
  refine hs.out.mono ?_
  rintro e w2 ⟨rfl, hg⟩
  have HG := Lib.hid hg
  clear hg
  go_wp2_with fail
  go_ret
  exact takes_of HR.out HO.out HB.out HG.out

end Go.Proofs.Ythagggclhahikaa.peek
