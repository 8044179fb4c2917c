/-
  Given for the seat's laws: bytes that were a text: they lie in a block of the call's own of which what stands behind the row may be frozen; texts and bytes appended to them. No condition but those of the theorems.
-/
import Derived.Test.YtkclhfoeimbikaaDoorKTake
import Derived.Laws.StructEq
namespace Go.Proofs.YtkclhfoeimbikaaDoor.hd
open Go.RowKit mem
set_option linter.unusedVariables false

/-- bytes of the call's own, that may be frozen behind the room that they have -/
def RowG (W : World) (B : Nat) (v : Value) (l : Str) : Prop :=
  ∃ g cap cur fz, v = .slice (some ⟨g, 0, none⟩) l.length cap ∧ B ≤ g ∧ W.heap[g]? = some (.cells cur 5 fz) ∧ (fz = (0, 0) ∨ cap ≤ fz.1) ∧ l.length ≤ cap ∧ cap ≤ maxLen ∧ cur.size = cap ∧ cur.toList.take l.length = B8 (ints l)
section
variable {W W' : World} {B : Nat} {v : Value} {l : Str}
theorem RowG.lt (h : RowG W B v l) {k : Nat} (hk : v.ownBlock = some k) : B ≤ k ∧ k < W.heap.size := by
  obtain ⟨g, cap, cur, fz, rfl, hb, hh, _⟩ := h
  have : g = k := by simpa [Value.ownBlock] using hk
  subst this
  exact ⟨hb, (Array.getElem?_eq_some_iff.1 hh).1⟩
theorem RowG.same (h : RowG W B v l) (hk : ∀ g, v.ownBlock = some g → W'.heap[g]? = W.heap[g]?) : RowG W' B v l := by
  obtain ⟨g, cap, cur, fz, rfl, hb, hh, rest⟩ := h
  exact ⟨g, cap, cur, fz, rfl, hb, by rw [hk g rfl]; exact hh, rest⟩
theorem RowG.below (h : RowG W B v l) (hb : Below W.heap.size W W') : RowG W' B v l := h.same fun g hg => hb.block g (h.lt hg).2
theorem RowG.weak {B' : Nat} (h : RowG W B v l) (hB : B' ≤ B) : RowG W B' v l := by
  obtain ⟨g, cap, cur, fz, hv, hb, rest⟩ := h
  exact ⟨g, cap, cur, fz, hv, by omega, rest⟩
theorem RowG.form (h : RowG W B v l) : ∃ g c, v = .slice (some ⟨g, 0, none⟩) l.length c := by
  obtain ⟨g, cap, cur, fz, hv, _⟩ := h
  exact ⟨g, cap, hv⟩
theorem RowG.ne {g : Nat} {t : TypeId} {cs : Array Value} (h : RowG W B v l) (hl : Lies W g t cs) (hne : 5 ≠ t) : v.ownBlock ≠ some g := by
  obtain ⟨g', cap, cur, fz, rfl, hb, hh, _⟩ := h
  intro e
  have : g' = g := by simpa [Value.ownBlock] using e
  subst this
  have h2 : W.heap[g']? = some (.cells cs t (0, 0)) := hl
  rw [hh] at h2
  simp at h2
  exact hne h2.2.1
theorem RowG.apart {B' : Nat} {v' : Value} {e' : TypeId} {sz' k' : Nat} {xs' : List Value} (h : RowG W B v l) (h' : W.ownsRow B' e' sz' v' k' xs') (hne : 5 ≠ e') {g : Nat} (hg : v'.ownBlock = some g) : v.ownBlock ≠ some g := by
  obtain ⟨g', cap, cur, fz, rfl, hb, hh, _⟩ := h
  intro e
  have : g' = g := by simpa [Value.ownBlock] using e
  subst this
  rcases h'.2 with ⟨rfl, _⟩ | ⟨g2, cap2, cur2, rfl, _, hh2, _⟩
  · simp [Value.ownBlock] at hg
  · have : g2 = g' := by simpa [Value.ownBlock] using hg
    subst this
    rw [hh] at hh2
    simp at hh2
    exact hne hh2.2.1
theorem RowG.cells {g c : Nat} (h : RowG W B (.slice (some ⟨g, 0, none⟩) l.length c) l) : ∀ j u, (B8 (ints l))[j]? = some u → W.cell? ((⟨g, 0, none⟩ : Addr).add j) = some u := by
  obtain ⟨g', cap, cur, fz, hv, hb, hh, _, _, _, _, ht⟩ := h
  simp only [Value.slice.injEq, Option.some.injEq, Addr.mk.injEq] at hv
  obtain ⟨⟨rfl, _⟩, _, rfl⟩ := hv
  intro j u hu
  rw [Addr.add_lit, Nat.zero_add]
  rw [← ht, List.getElem?_take] at hu
  split at hu
  · simp only [World.cell?, hh]
    simpa using hu
  · cases hu
theorem RowG.spell {A : Option Addr} {n c : Nat} (h : RowG W B (.slice A n c) l) (hn : l.length = n) : Spell W (fun g => g < W.heap.size) A n c l := by
  subst hn
  obtain ⟨g, cap, hv⟩ := h.form
  simp only [Value.slice.injEq, true_and] at hv
  obtain ⟨rfl, rfl⟩ := hv
  have hc := h.cells
  have hlt := (h.lt (k := g) rfl).2
  obtain ⟨g', cap, cur, fz, hv, hb, hh, _, hnc, hm, _, ht⟩ := h
  simp only [Value.slice.injEq, Option.some.injEq, Addr.mk.injEq] at hv
  obtain ⟨⟨rfl, _⟩, _, rfl⟩ := hv
  refine ⟨by rw [ints_len], hnc, fun e => (by cases e), hm, ints_rng l, fun _ => ⟨g, 0, rfl, hlt, fun j z hz => ?_⟩⟩
  have := hc j (.int .u8 z) (by simp [B8, hz])
  rwa [Addr.add_lit] at this
/-- a byte is set -/
theorem RowG.set {A : Option Addr} {n c : Nat} (h : RowG W B (.slice A n c) l) (hn : l.length = n) {i : Nat} (hi : i < n) (x : UInt8) :
    ∃ g old, A = some ⟨g, 0, none⟩ ∧ W.cell? ⟨g, i, none⟩ = some old ∧ W.frozen? ⟨g, i, none⟩ = false ∧ B ≤ g ∧ RowG (W.setCell ⟨g, i, none⟩ (.int .u8 (x.toNat : Int))) B (.slice A n c) (l.set i x) := by
  subst hn
  obtain ⟨g, cap, cur, fz, hv, hb, hh, hfz, hnc, hm, hs, ht⟩ := h
  simp only [Value.slice.injEq, true_and] at hv
  obtain ⟨rfl, rfl⟩ := hv
  have hic : i < cur.size := by omega
  refine ⟨g, cur[i], rfl, by simp [World.cell?, hh, hic], ?_, hb, g, c, cur.setIfInBounds i (.int .u8 (x.toNat : Int)), fz, by rw [List.length_set], hb, ?_, hfz, by rw [List.length_set]; exact hnc, hm, by simpa using hs, ?_⟩
  · obtain ⟨lo, hi'⟩ := fz
    simp only [World.frozen?, hh]
    rcases hfz with h0 | h0
    · simp at h0; simp [h0]
    · simp at h0; simp; omega
  · simp [World.setCell, Array.getElem?_modify, hh]
  · rw [Array.toList_setIfInBounds, List.length_set, List.take_set, ht]
    simp [B8, ints, List.map_set]
end

theorem conv_any (s : ByteArray) (W : World) : (convert 9 22 (.string s)).run Tryd.prog W = .ok (.slice (some ⟨W.heap.size, 0, none⟩) s.size (grownCap W s.size 0 5)) (Lib.bytesWorld W 5 s) :=
  Lib.run_convert_string_bytes W _ _ _ s (u := .string) Tryd.underlying9 Tryd.underlying22 Tryd.underlying5
theorem conv_below (s : ByteArray) (W : World) : Below W.heap.size W (Lib.bytesWorld W 5 s) :=
  ⟨rfl, rfl, rfl, by rw [Lib.bytesWorld_size]; omega, fun g hg => Lib.bytesWorld_at_old _ _ _ _ hg⟩
theorem conv_row (l : Str) (W : World) (hl : l.length ≤ 1000000) : RowG (Lib.bytesWorld W 5 (S l)) W.heap.size (.slice (some ⟨W.heap.size, 0, none⟩) l.length (grownCap W l.length 0 5)) l := by
  have hge := grownCap_ge W l.length 0 5
  have hmx := grownCap_le_maxLen W l.length 0 5 (by unfold maxLen; omega)
  have hsz : (S l).size = l.length := S_size l
  have hcs : (Lib.bytesCells W 5 (S l)).size = grownCap W l.length 0 5 := by
    have h1 : (S l).data.size = l.length := hsz
    unfold Lib.bytesCells
    rw [hsz]
    simp [h1]
    omega
  refine ⟨W.heap.size, _, Lib.bytesCells W 5 (S l), _, rfl, Nat.le_refl _, Lib.bytesWorld_at_new W 5 (S l), .inr (by show _ ≤ (Lib.bytesCells W 5 (S l)).size; omega), hge, hmx, hcs, ?_⟩
  unfold Lib.bytesCells
  have e : (S l).data.toList = l := S_list l
  simp only [Array.toList_append, Array.toList_map, e]
  rw [List.take_append_of_le_length (by simp)]
  simp [B8, ints]
  exact List.take_of_length_le (by simp)

theorem store_g (g o : Nat) (t : TypeId) (fz : Nat × Nat) : ∀ (vs : List Value) (i : Nat) (cur : Array Value) (w : World), w.heap[g]? = some (.cells cur t fz) → (fz = (0, 0) ∨ o + i + vs.length ≤ fz.1) → o + i + vs.length ≤ cur.size → (∀ v ∈ vs, v.oneCell' = true) →
    (storeCells ⟨g, o, none⟩ vs i).run Tryd.prog w = .ok () (w.setRow g (cur.toList.take (o + i) ++ vs ++ cur.toList.drop (o + i + vs.length)).toArray) := by
  intro vs
  induction vs with
  | nil =>
    intro i cur w hg _ _ _
    simp only [storeCells, List.append_nil, List.length_nil, Nat.add_zero, List.take_append_drop, Array.toArray_toList]
    rw [setRow_self w g cur t fz hg]
    rfl
  | cons v rest ih =>
    intro i cur w hg hfz hl h1
    simp only [List.length_cons] at hfz hl
    have hi : o + i < cur.size := by omega
    have hcell : w.cell? ⟨g, o + i, none⟩ = some cur[o + i] := by simp [World.cell?, hg, hi]
    have hfro : w.frozen? ⟨g, o + i, none⟩ = false := by
      obtain ⟨lo, hi'⟩ := fz
      simp only [World.frozen?, hg]
      rcases hfz with h0 | h0
      · simp at h0; simp [h0]
      · simp at h0; simp; omega
    have hst : (store ((⟨g, o, none⟩ : Addr).add i) v).run Tryd.prog w = .ok () (w.setRow g (cur.setIfInBounds (o + i) v)) := by
      rw [Addr.add_lit, run_store Tryd.prog w _ v _ (h1 v (by simp)), hcell]
      simp [hfro, setCell_eq_setRow w g (o + i) cur t fz v hg]
    have ih2 := ih (i + 1) (cur.setIfInBounds (o + i) v) (w.setRow g (cur.setIfInBounds (o + i) v)) (setRow_heap w g cur _ t _ hg) (by rcases hfz with h0 | h0; exact .inl h0; exact .inr (by omega)) (by simp; omega) (fun x hx => h1 x (by simp [hx]))
    simp only [storeCells, Sem.run_bind, hst, Result.andThen_ok, ih2, setRow_setRow]
    congr 3
    have e := list_seg_step cur.toList (o + i) v rest (by simp; omega)
    simpa [Array.toList_setIfInBounds, Nat.add_assoc] using e
theorem u8Info : (Tryd.prog.info? 5).map (fun i => (i.zero, i.size, i.bytes)) = some (some (.int .u8 0), 1, 1) := by kernel_rfl
theorem strCells_S (m : Str) : Lib.strCells (S m) = B8 (ints m) := by
  unfold Lib.strCells
  rw [S_list]
  simp [B8, ints]
/-- what is written into the row, or into a greater one -/
theorem row_grown {W : World} {B g cap : Nat} {l m : Str} {cur : Array Value} {fz : Nat × Nat} (hb : B ≤ g) (hh : W.heap[g]? = some (.cells cur 5 fz)) (hfz : fz = (0, 0) ∨ cap ≤ fz.1) (hm : cap ≤ maxLen) (hs : cur.size = cap) (ht : cur.toList.take l.length = B8 (ints l)) (hr : l.length + m.length ≤ cap) :
    RowG (W.setRow g (cur.toList.take l.length ++ B8 (ints m) ++ cur.toList.drop (l.length + m.length)).toArray) B (.slice (some ⟨g, 0, none⟩) (l.length + m.length : Nat) cap) (l ++ m) ∧ Kp (fun k => k = g) W (W.setRow g (cur.toList.take l.length ++ B8 (ints m) ++ cur.toList.drop (l.length + m.length)).toArray) := by
  refine ⟨⟨g, cap, _, fz, by rw [List.length_append], hb, setRow_heap W g cur _ 5 fz hh, hfz, by rw [List.length_append]; exact hr, hm, ?_, ?_⟩, ⟨rfl, rfl, rfl, by simp, fun k _ hk => setRow_other W g k _ (fun e => hk e)⟩⟩
  · simp [B8_length, ints_len]; omega
  · rw [ht, List.length_append, ints_app]
    have e : B8 (ints l ++ ints m) = B8 (ints l) ++ B8 (ints m) := by simp [B8]
    rw [e]
    have hx : (B8 (ints l) ++ B8 (ints m)).length = l.length + m.length := by simp [B8_length, ints_len]
    rw [← hx]
    exact List.take_left
theorem row_new {W : World} {B : Nat} {l : Str} {cap : Nat} (hB : B ≤ W.heap.size) (hc : l.length ≤ cap) (hm : cap ≤ maxLen) (z : Array Value) (hz : z.size = cap - l.length) :
    RowG (W.drew.alloc (.cells ((B8 (ints l)).toArray ++ z) 5)) B (.slice (some ⟨W.heap.size, 0, none⟩) l.length cap) l ∧ Kp (fun k => False) W (W.drew.alloc (.cells ((B8 (ints l)).toArray ++ z) 5)) := by
  refine ⟨⟨W.heap.size, cap, _, (0, 0), rfl, hB, heap_alloc_new W.drew _, .inl rfl, hc, hm, ?_, ?_⟩, ⟨rfl, rfl, rfl, by simp, fun k hk _ => Below.heap_alloc W.drew _ k hk⟩⟩
  · simp [B8_length, ints_len, hz]; omega
  · simp only [Array.toList_append]
    have hx : (B8 (ints l)).length = l.length := by simp [B8_length, ints_len]
    rw [← hx]
    exact List.take_left
theorem Kp.mono {S T : Nat → Prop} {W W1 : World} (h : Kp S W W1) (hs : ∀ k, S k → T k) : Kp T W W1 := ⟨h.os, h.tape, h.output, h.size, fun k hk hn => h.block k hk fun e => hn (hs k e)⟩
/-- a text appended -/
theorem RowG.appS {W : World} {B : Nat} {A : Option Addr} {n c : Nat} {l : Str} (h : RowG W B (.slice A n c) l) (hn : l.length = n) (hB : B ≤ W.heap.size) (m : Str) (hl : n + m.length ≤ 1000000) :
    ∃ A' c' W', (Builtin.append_ #[22, 9] 22 #[.slice A n c, .string (S m)]).run Tryd.prog W = .ok (.slice A' (n + m.length : Nat) c') W' ∧ RowG W' B (.slice A' (n + m.length : Nat) c') (l ++ m) ∧ Kp (fun k => (Value.slice A n c).ownBlock = some k) W W' := by
  subst hn
  obtain ⟨i0, hi, hz0, hz1, hz2⟩ := info_parts u8Info
  obtain ⟨g, cap, hv⟩ := h.form
  simp only [Value.slice.injEq, true_and] at hv
  obtain ⟨rfl, rfl⟩ := hv
  have hcl := h.cells
  obtain ⟨g', cap, cur, fz, hv, hb, hh, hfz, hnc, hm, hs, ht⟩ := h
  simp only [Value.slice.injEq, Option.some.injEq, Addr.mk.injEq] at hv
  obtain ⟨⟨rfl, _⟩, _, rfl⟩ := hv
  have hsm : (S m).size = m.length := S_size m
  by_cases hroom : l.length + m.length ≤ c
  · obtain ⟨r1, r2⟩ := row_grown (m := m) hb hh hfz hm hs ht hroom
    refine ⟨_, _, _, ?_, r1, r2.mono fun k e => by rw [e]; rfl⟩
    have hf := Lib.run_firstCells_string (P := Tryd.prog) W 1 (S m)
    have hst := store_g g l.length 5 fz (Lib.strCells (S m)) 0 cur W hh (by rcases hfz with h0 | h0; exact .inl h0; exact .inr (by rw [Lib.strCells_length, hsm]; omega)) (by rw [Lib.strCells_length, hsm]; omega) (Lib.strCells_oneCell _)
    rw [hsm] at hf
    simp only [Nat.add_zero, strCells_S, B8_length, ints_len] at hst
    rw [strCells_S] at hf
    simp [Builtin.append_, run_underlying Tryd.underlying22, run_underlying Tryd.underlying9, sizeOf, typeInfo, hi, hz1, Builtin.lenOf, hsm, hroom, hf, Addr.add_lit, hst]
  · have hr := Lib.run_append_grow_string (P := Tryd.prog) W 22 9 22 5 i0 (.int .u8 0) Tryd.underlying22 Tryd.underlying9 hi hz0 ⟨g, 0, none⟩ l.length c (B8 (ints l)) (by rw [hz1, B8_length, ints_len, Nat.mul_one]) hcl (S m) (by rw [hsm]; omega) (by rw [hsm]; omega) (by rw [hz2, hsm]; exact growslice_fits (by omega) (by omega))
    rw [hsm, strCells_S] at hr
    have hge := grownCap_ge W (l.length + m.length) c 5
    have hmx := grownCap_le_maxLen W (l.length + m.length) c 5 (by unfold maxLen; omega)
    obtain ⟨r1, r2⟩ := row_new (W := W) (B := B) (l := l ++ m) (cap := grownCap W (l.length + m.length) c 5) hB (by rw [List.length_append]; exact hge) hmx (Builtin.zeroCells (Value.int .u8 0).cells (grownCap W (l.length + m.length) c 5 - (l.length + m.length))) (by rw [size_zeroCells, List.length_append]; exact Nat.mul_one _)
    have e : (B8 (ints l)).toArray ++ (B8 (ints m)).toArray = (B8 (ints (l ++ m))).toArray := by rw [ints_app]; simp [B8]
    rw [e] at hr
    rw [List.length_append] at r1
    exact ⟨_, _, _, hr, r1, r2.mono fun k e => e.elim⟩
/-- a byte appended -/
theorem RowG.push {W : World} {B : Nat} {A : Option Addr} {n c : Nat} {l : Str} (h : RowG W B (.slice A n c) l) (hn : l.length = n) (hB : B ≤ W.heap.size) (x : UInt8) (hl : n ≤ 100000) :
    ∃ A' c' W', (Builtin.append_ #[22, 22] 22 #[.slice A n c, .slice (some ⟨W.heap.size, 0, none⟩) 1 1]).run Tryd.prog (W.alloc (.cells #[.int .u8 (x.toNat : Int)] 5)) = .ok (.slice A' (n + 1 : Nat) c') W' ∧ RowG W' B (.slice A' (n + 1 : Nat) c') (l ++ [x]) ∧ Kp (fun k => (Value.slice A n c).ownBlock = some k) W W' := by
  subst hn
  have hal : Below W.heap.size W (W.alloc (.cells #[.int .u8 (x.toNat : Int)] 5)) := (Below.refl _ _).alloc (Nat.le_refl _) _
  have h := h.below hal
  obtain ⟨i0, hi, hz0, hz1, hz2⟩ := info_parts u8Info
  have hnews : ∀ j u, (B8 (ints [x]))[j]? = some u → (W.alloc (.cells #[.int .u8 (x.toNat : Int)] 5)).cell? ((⟨W.heap.size, 0, none⟩ : Addr).add j) = some u := fun j u hu => by
    rw [Addr.add_lit, Nat.zero_add, lit_cell]
    simpa [B8, ints] using hu
  obtain ⟨W1, hW1⟩ : ∃ W1, W1 = W.alloc (.cells #[.int .u8 (x.toNat : Int)] 5) := ⟨_, rfl⟩
  rw [← hW1] at h hnews hal ⊢
  have hB1 : B ≤ W1.heap.size := Nat.le_trans hB hal.size
  obtain ⟨g, cap, hv⟩ := h.form
  simp only [Value.slice.injEq, true_and] at hv
  obtain ⟨rfl, rfl⟩ := hv
  have hcl := h.cells
  obtain ⟨g', cap, cur, fz, hv, hb, hh, hfz, hnc, hm, hs, ht⟩ := h
  simp only [Value.slice.injEq, Option.some.injEq, Addr.mk.injEq] at hv
  obtain ⟨⟨rfl, _⟩, _, rfl⟩ := hv
  have key : ∀ {A' : Option Addr} {c' : Nat} {W' : World} {T : Nat → Prop}, Kp T W1 W' → (∀ k, T k → (Value.slice (some ⟨g, 0, none⟩) l.length c).ownBlock = some k) → Kp (fun k => (Value.slice (some ⟨g, 0, none⟩) l.length c).ownBlock = some k) W W' := fun hk ht => 
    ⟨hk.os.trans hal.os, hk.tape.trans hal.tape, hk.output.trans hal.output, Nat.le_trans hal.size hk.size, fun k h1 h2 => (hk.block k (Nat.lt_of_lt_of_le h1 hal.size) (fun e => h2 (ht k e))).trans (hal.block k h1)⟩
  by_cases hroom : l.length + 1 ≤ c
  · obtain ⟨r1, r2⟩ := row_grown (m := [x]) hb hh hfz hm hs ht hroom
    refine ⟨_, _, _, ?_, r1, key (A' := none) (c' := 0) r2 fun k e => by rw [e]; rfl⟩
    have hf := run_firstCells_some (P := Tryd.prog) W1 1 1 ⟨W.heap.size, 0, none⟩ 1 1 (B8 (ints [x])) rfl hnews
    have hst := store_g g l.length 5 fz (B8 (ints [x])) 0 cur W1 hh (by rcases hfz with h0 | h0; exact .inl h0; exact .inr (by show l.length + 0 + 1 ≤ _; omega)) (by show l.length + 0 + 1 ≤ _; omega) (B8_one _)
    simp only [Nat.add_zero] at hst
    simp [Builtin.append_, run_underlying Tryd.underlying22, sizeOf, typeInfo, hi, hz1, Builtin.lenOf, hroom, hf, Addr.add_lit, hst]
    rfl
  · have hr := run_append_grow (P := Tryd.prog) W1 22 22 5 i0 (.int .u8 0) Tryd.underlying22 hi hz0 ⟨g, 0, none⟩ l.length c (B8 (ints l)) (by rw [hz1, B8_length, ints_len, Nat.mul_one]) hcl ⟨W.heap.size, 0, none⟩ 1 1 (B8 (ints [x])) (by rw [hz1]; rfl) hnews (by omega) (by omega) (by rw [hz2]; exact growslice_fits (by omega) (by omega))
    have hge := grownCap_ge W1 (l.length + 1) c 5
    have hmx := grownCap_le_maxLen W1 (l.length + 1) c 5 (by unfold maxLen; omega)
    obtain ⟨r1, r2⟩ := row_new (W := W1) (B := B) (l := l ++ [x]) (cap := grownCap W1 (l.length + 1) c 5) hB1 (by rw [List.length_append]; exact hge) hmx (Builtin.zeroCells (Value.int .u8 0).cells (grownCap W1 (l.length + 1) c 5 - (l.length + 1))) (by rw [size_zeroCells, List.length_append]; exact Nat.mul_one _)
    have e : (B8 (ints l)).toArray ++ (B8 (ints [x])).toArray = (B8 (ints (l ++ [x]))).toArray := by rw [ints_app]; simp [B8]
    rw [e] at hr
    rw [List.length_append] at r1
    exact ⟨_, _, _, hr, r1, key (A' := none) (c' := 0) r2 fun k e => e.elim⟩
/-- the empty literal -/
theorem rowG_lit (W : World) : RowG (W.alloc (.cells #[] 5)) W.heap.size (.slice (some ⟨W.heap.size, 0, none⟩) (0 : Nat) 0) [] :=
  ⟨W.heap.size, 0, #[], (0, 0), rfl, Nat.le_refl _, heap_alloc_new W _, .inl rfl, Nat.le_refl _, by unfold maxLen; omega, rfl, rfl⟩
/-- bytes appended -/
theorem RowG.appB {W : World} {B : Nat} {A : Option Addr} {n c : Nat} {l : Str} (h : RowG W B (.slice A n c) l) (hn : l.length = n) (hB : B ≤ W.heap.size) {ok : Nat → Prop} {A2 : Option Addr} {m d : Nat} {ys : Str} (hs : Spell W ok A2 m d ys) (hl : n + m ≤ 100000) :
    ∃ A' c' W', (Builtin.append_ #[22, 22] 22 #[.slice A n c, .slice A2 m d]).run Tryd.prog W = .ok (.slice A' (n + m : Nat) c') W' ∧ RowG W' B (.slice A' (n + m : Nat) c') (l ++ ys) ∧ Kp (fun k => (Value.slice A n c).ownBlock = some k) W W' := by
  subst hn
  obtain ⟨i0, hi, hz0, hz1, hz2⟩ := info_parts u8Info
  have hym := spell_len hs
  obtain ⟨g, cap, hv⟩ := h.form
  simp only [Value.slice.injEq, true_and] at hv
  obtain ⟨rfl, rfl⟩ := hv
  have hcl := h.cells
  have h0 := h
  obtain ⟨g', cap, cur, fz, hv, hb, hh, hfz, hnc, hm, hsz, ht⟩ := h
  simp only [Value.slice.injEq, Option.some.injEq, Addr.mk.injEq] at hv
  obtain ⟨⟨rfl, _⟩, _, rfl⟩ := hv
  cases A2 with
  | none =>
    have hd := hs.non rfl
    have hm0 : m = 0 := by have := hs.cap; omega
    subst hd hm0
    have hy : ys = [] := List.eq_nil_of_length_eq_zero hym
    subst hy
    refine ⟨some ⟨g, 0, none⟩, c, W, ?_, by simpa using h0, ⟨rfl, rfl, rfl, Nat.le_refl _, fun _ _ _ => rfl⟩⟩
    simp [Builtin.append_, run_underlying Tryd.underlying22, sizeOf, typeInfo, hi, Builtin.lenOf, Builtin.firstCells, hnc, loadCells, storeCells]
  | some a =>
    have hnews : ∀ j u, (B8 (ints ys))[j]? = some u → W.cell? (a.add j) = some u := fun j u hu => by
      have hj : j < m := by
        have := (List.getElem?_eq_some_iff.1 hu).1
        rw [B8_length, ints_len, hym] at this
        exact this
      rw [hs.add_cell rfl j hj, ← hu]
      simp [B8, List.getD, ints_len, hym, hj]
    have hlen : (B8 (ints ys)).length = m := by rw [B8_length, ints_len, hym]
    by_cases hroom : l.length + m ≤ c
    · obtain ⟨r1, r2⟩ := row_grown (m := ys) hb hh hfz hm hsz ht (by rw [hym]; exact hroom)
      rw [hym] at r1 r2
      refine ⟨_, _, _, ?_, r1, r2.mono fun k e => by rw [e]; rfl⟩
      have hf := run_firstCells_some (P := Tryd.prog) W 1 m a m d (B8 (ints ys)) (by rw [hlen, Nat.mul_one]) hnews
      have hst := store_g g l.length 5 fz (B8 (ints ys)) 0 cur W hh (by rcases hfz with h0 | h0; exact .inl h0; exact .inr (by rw [hlen]; omega)) (by rw [hlen]; omega) (B8_one _)
      simp only [Nat.add_zero, hlen] at hst
      simp [Builtin.append_, run_underlying Tryd.underlying22, sizeOf, typeInfo, hi, hz1, Builtin.lenOf, hroom, hf, Addr.add_lit, hst]
    · have hr := run_append_grow (P := Tryd.prog) W 22 22 5 i0 (.int .u8 0) Tryd.underlying22 hi hz0 ⟨g, 0, none⟩ l.length c (B8 (ints l)) (by rw [hz1, B8_length, ints_len, Nat.mul_one]) hcl a m d (B8 (ints ys)) (by rw [hz1, hlen, Nat.mul_one]) hnews (by omega) (by omega) (by rw [hz2]; exact growslice_fits (by omega) (by omega))
      have hge := grownCap_ge W (l.length + m) c 5
      have hmx := grownCap_le_maxLen W (l.length + m) c 5 (by unfold maxLen; omega)
      obtain ⟨r1, r2⟩ := row_new (W := W) (B := B) (l := l ++ ys) (cap := grownCap W (l.length + m) c 5) hB (by rw [List.length_append, hym]; exact hge) hmx (Builtin.zeroCells (Value.int .u8 0).cells (grownCap W (l.length + m) c 5 - (l.length + m))) (by rw [size_zeroCells, List.length_append, hym]; exact Nat.mul_one _)
      have e : (B8 (ints l)).toArray ++ (B8 (ints ys)).toArray = (B8 (ints (l ++ ys))).toArray := by rw [ints_app]; simp [B8]
      rw [e] at hr
      rw [List.length_append, hym] at r1
      exact ⟨_, _, _, hr, r1, r2.mono fun k e => e.elim⟩
theorem RowG.kp_below {W W' : World} {B : Nat} {v : Value} {l : Str} (h : RowG W B v l) (hB : B ≤ W.heap.size) (hk : Kp (fun k => v.ownBlock = some k) W W') : Below B W W' := hk.below hB fun k h1 h2 => by have := (h.lt h2).1; omega
end Go.Proofs.YtkclhfoeimbikaaDoor.hd
