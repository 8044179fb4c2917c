/-
  Given for the seat's laws: bytes that were a text: they lie in a block of the call's own of which what stands behind the row may be frozen; texts and bytes appended to them. No condition but those of the theorems.
-/
import Derived.Test.YtghdaengkgiekaaGreatDoorYKTake
import Derived.Laws.StructEq
import Derived.BigQuiet
namespace Go.Proofs.YtghdaengkgiekaaGreatDoor.hd
open Go.RowKit mem
set_option linter.unusedVariables false

/-- bytes of the call's own, that may be frozen behind the room that they have -/
def RowG (W : World) (B : Nat) (v : Value) (l : Str) : Prop :=
  ∃ g cap cur fz, v = .slice (some ⟨g, 0, none⟩) l.length cap ∧ B ≤ g ∧ W.heap[g]? = some (.cells cur 5 fz) ∧ (fz = (0, 0) ∨ cap ≤ fz.1) ∧ l.length ≤ cap ∧ cap ≤ maxLen ∧ cur.size = cap ∧ cur.toList.take l.length = B8 (ints l)
section
variable {W W' : World} {B : Nat} {v : Value} {l : Str}
theorem RowG.lt (h : RowG W B v l) {k : Nat} (hk : v.ownBlock = some k) : B ≤ k ∧ k < W.heap.size := by
  obtain ⟨g, cap, cur, fz, rfl, hb, hh, _⟩ := h
  have : g = k := by simpa [Value.ownBlock] using hk
  subst this
  exact ⟨hb, (Array.getElem?_eq_some_iff.1 hh).1⟩
theorem RowG.same (h : RowG W B v l) (hk : ∀ g, v.ownBlock = some g → W'.heap[g]? = W.heap[g]?) : RowG W' B v l := by
  obtain ⟨g, cap, cur, fz, rfl, hb, hh, rest⟩ := h
  exact ⟨g, cap, cur, fz, rfl, hb, by rw [hk g rfl]; exact hh, rest⟩
theorem RowG.below (h : RowG W B v l) (hb : Below W.heap.size W W') : RowG W' B v l := h.same fun g hg => hb.block g (h.lt hg).2
theorem RowG.weak {B' : Nat} (h : RowG W B v l) (hB : B' ≤ B) : RowG W B' v l := by
  obtain ⟨g, cap, cur, fz, hv, hb, rest⟩ := h
  exact ⟨g, cap, cur, fz, hv, by omega, rest⟩
theorem RowG.form (h : RowG W B v l) : ∃ g c, v = .slice (some ⟨g, 0, none⟩) l.length c := by
  obtain ⟨g, cap, cur, fz, hv, _⟩ := h
  exact ⟨g, cap, hv⟩
theorem RowG.ne {g : Nat} {t : TypeId} {cs : Array Value} (h : RowG W B v l) (hl : Lies W g t cs) (hne : 5 ≠ t) : v.ownBlock ≠ some g := by
  obtain ⟨g', cap, cur, fz, rfl, hb, hh, _⟩ := h
  intro e
  have : g' = g := by simpa [Value.ownBlock] using e
  subst this
  have h2 : W.heap[g']? = some (.cells cs t (0, 0)) := hl
  rw [hh] at h2
  simp at h2
  exact hne h2.2.1
theorem RowG.apart {B' : Nat} {v' : Value} {e' : TypeId} {sz' k' : Nat} {xs' : List Value} (h : RowG W B v l) (h' : W.ownsRow B' e' sz' v' k' xs') (hne : 5 ≠ e') {g : Nat} (hg : v'.ownBlock = some g) : v.ownBlock ≠ some g := by
  obtain ⟨g', cap, cur, fz, rfl, hb, hh, _⟩ := h
  intro e
  have : g' = g := by simpa [Value.ownBlock] using e
  subst this
  rcases h'.2 with ⟨rfl, _⟩ | ⟨g2, cap2, cur2, rfl, _, hh2, _⟩
  · simp [Value.ownBlock] at hg
  · have : g2 = g' := by simpa [Value.ownBlock] using hg
    subst this
    rw [hh] at hh2
    simp at hh2
    exact hne hh2.2.1
theorem RowG.cells {g c : Nat} (h : RowG W B (.slice (some ⟨g, 0, none⟩) l.length c) l) : ∀ j u, (B8 (ints l))[j]? = some u → W.cell? ((⟨g, 0, none⟩ : Addr).add j) = some u := by
  obtain ⟨g', cap, cur, fz, hv, hb, hh, _, _, _, _, ht⟩ := h
  simp only [Value.slice.injEq, Option.some.injEq, Addr.mk.injEq] at hv
  obtain ⟨⟨rfl, _⟩, _, rfl⟩ := hv
  intro j u hu
  rw [Addr.add_lit, Nat.zero_add]
  rw [← ht, List.getElem?_take] at hu
  split at hu
  · simp only [World.cell?, hh]
    simpa using hu
  · cases hu
theorem RowG.spell {A : Option Addr} {n c : Nat} (h : RowG W B (.slice A n c) l) (hn : l.length = n) : Spell W (fun g => g < W.heap.size) A n c l := by
  subst hn
  obtain ⟨g, cap, hv⟩ := h.form
  simp only [Value.slice.injEq, true_and] at hv
  obtain ⟨rfl, rfl⟩ := hv
  have hc := h.cells
  have hlt := (h.lt (k := g) rfl).2
  obtain ⟨g', cap, cur, fz, hv, hb, hh, _, hnc, hm, _, ht⟩ := h
  simp only [Value.slice.injEq, Option.some.injEq, Addr.mk.injEq] at hv
  obtain ⟨⟨rfl, _⟩, _, rfl⟩ := hv
  refine ⟨by rw [ints_len], hnc, fun e => (by cases e), hm, ints_rng l, fun _ => ⟨g, 0, rfl, hlt, fun j z hz => ?_⟩⟩
  have := hc j (.int .u8 z) (by simp [B8, hz])
  rwa [Addr.add_lit] at this
/-- a byte is set -/
theorem RowG.set {A : Option Addr} {n c : Nat} (h : RowG W B (.slice A n c) l) (hn : l.length = n) {i : Nat} (hi : i < n) (x : UInt8) :
    ∃ g old, A = some ⟨g, 0, none⟩ ∧ W.cell? ⟨g, i, none⟩ = some old ∧ W.frozen? ⟨g, i, none⟩ = false ∧ B ≤ g ∧ RowG (W.setCell ⟨g, i, none⟩ (.int .u8 (x.toNat : Int))) B (.slice A n c) (l.set i x) := by
  subst hn
  obtain ⟨g, cap, cur, fz, hv, hb, hh, hfz, hnc, hm, hs, ht⟩ := h
  simp only [Value.slice.injEq, true_and] at hv
  obtain ⟨rfl, rfl⟩ := hv
  have hic : i < cur.size := by omega
  refine ⟨g, cur[i], rfl, by simp [World.cell?, hh, hic], ?_, hb, g, c, cur.setIfInBounds i (.int .u8 (x.toNat : Int)), fz, by rw [List.length_set], hb, ?_, hfz, by rw [List.length_set]; exact hnc, hm, by simpa using hs, ?_⟩
  · obtain ⟨lo, hi'⟩ := fz
    simp only [World.frozen?, hh]
    rcases hfz with h0 | h0
    · simp at h0; simp [h0]
    · simp at h0; simp; omega
  · simp [World.setCell, Array.getElem?_modify, hh]
  · rw [Array.toList_setIfInBounds, List.length_set, List.take_set, ht]
    simp [B8, ints, List.map_set]
end

theorem conv_any (s : ByteArray) (W : World) : (convert 9 29 (.string s)).run Tryz.prog W = .ok (.slice (some ⟨W.heap.size, 0, none⟩) s.size (grownCap W s.size 0 5)) (Lib.bytesWorld W 5 s) :=
  Lib.run_convert_string_bytes W _ _ _ s (u := .string) Tryz.underlying9 Tryz.underlying29 Tryz.underlying5
theorem conv_below (s : ByteArray) (W : World) : Below W.heap.size W (Lib.bytesWorld W 5 s) :=
  ⟨rfl, rfl, rfl, by rw [Lib.bytesWorld_size]; omega, fun g hg => Lib.bytesWorld_at_old _ _ _ _ hg⟩
theorem conv_row (l : Str) (W : World) (hl : l.length ≤ 1000000) : RowG (Lib.bytesWorld W 5 (S l)) W.heap.size (.slice (some ⟨W.heap.size, 0, none⟩) l.length (grownCap W l.length 0 5)) l := by
  have hge := grownCap_ge W l.length 0 5
  have hmx := grownCap_le_maxLen W l.length 0 5 (by unfold maxLen; omega)
  have hsz : (S l).size = l.length := S_size l
  have hcs : (Lib.bytesCells W 5 (S l)).size = grownCap W l.length 0 5 := by
    have h1 : (S l).data.size = l.length := hsz
    unfold Lib.bytesCells
    rw [hsz]
    simp [h1]
    omega
  refine ⟨W.heap.size, _, Lib.bytesCells W 5 (S l), _, rfl, Nat.le_refl _, Lib.bytesWorld_at_new W 5 (S l), .inr (by show _ ≤ (Lib.bytesCells W 5 (S l)).size; omega), hge, hmx, hcs, ?_⟩
  unfold Lib.bytesCells
  have e : (S l).data.toList = l := S_list l
  simp only [Array.toList_append, Array.toList_map, e]
  rw [List.take_append_of_le_length (by simp)]
  simp [B8, ints]
  exact List.take_of_length_le (by simp)

theorem store_g (g o : Nat) (t : TypeId) (fz : Nat × Nat) : ∀ (vs : List Value) (i : Nat) (cur : Array Value) (w : World), w.heap[g]? = some (.cells cur t fz) → (fz = (0, 0) ∨ o + i + vs.length ≤ fz.1) → o + i + vs.length ≤ cur.size → (∀ v ∈ vs, v.oneCell' = true) →
    (storeCells ⟨g, o, none⟩ vs i).run Tryz.prog w = .ok () (w.setRow g (cur.toList.take (o + i) ++ vs ++ cur.toList.drop (o + i + vs.length)).toArray) := by
  intro vs
  induction vs with
  | nil =>
    intro i cur w hg _ _ _
    simp only [storeCells, List.append_nil, List.length_nil, Nat.add_zero, List.take_append_drop, Array.toArray_toList]
    rw [setRow_self w g cur t fz hg]
    rfl
  | cons v rest ih =>
    intro i cur w hg hfz hl h1
    simp only [List.length_cons] at hfz hl
    have hi : o + i < cur.size := by omega
    have hcell : w.cell? ⟨g, o + i, none⟩ = some cur[o + i] := by simp [World.cell?, hg, hi]
    have hfro : w.frozen? ⟨g, o + i, none⟩ = false := by
      obtain ⟨lo, hi'⟩ := fz
      simp only [World.frozen?, hg]
      rcases hfz with h0 | h0
      · simp at h0; simp [h0]
      · simp at h0; simp; omega
    have hst : (store ((⟨g, o, none⟩ : Addr).add i) v).run Tryz.prog w = .ok () (w.setRow g (cur.setIfInBounds (o + i) v)) := by
      rw [Addr.add_lit, run_store Tryz.prog w _ v _ (h1 v (by simp)), hcell]
      simp [hfro, setCell_eq_setRow w g (o + i) cur t fz v hg]
    have ih2 := ih (i + 1) (cur.setIfInBounds (o + i) v) (w.setRow g (cur.setIfInBounds (o + i) v)) (setRow_heap w g cur _ t _ hg) (by rcases hfz with h0 | h0; exact .inl h0; exact .inr (by omega)) (by simp; omega) (fun x hx => h1 x (by simp [hx]))
    simp only [storeCells, Sem.run_bind, hst, Result.andThen_ok, ih2, setRow_setRow]
    congr 3
    have e := list_seg_step cur.toList (o + i) v rest (by simp; omega)
    simpa [Array.toList_setIfInBounds, Nat.add_assoc] using e
theorem u8Info : (Tryz.prog.info? 5).map (fun i => (i.zero, i.size, i.bytes)) = some (some (.int .u8 0), 1, 1) := by kernel_rfl
theorem strCells_S (m : Str) : Lib.strCells (S m) = B8 (ints m) := by
  unfold Lib.strCells
  rw [S_list]
  simp [B8, ints]
/-- what is written into the row, or into a greater one -/
theorem row_grown {W : World} {B g cap : Nat} {l m : Str} {cur : Array Value} {fz : Nat × Nat} (hb : B ≤ g) (hh : W.heap[g]? = some (.cells cur 5 fz)) (hfz : fz = (0, 0) ∨ cap ≤ fz.1) (hm : cap ≤ maxLen) (hs : cur.size = cap) (ht : cur.toList.take l.length = B8 (ints l)) (hr : l.length + m.length ≤ cap) :
    RowG (W.setRow g (cur.toList.take l.length ++ B8 (ints m) ++ cur.toList.drop (l.length + m.length)).toArray) B (.slice (some ⟨g, 0, none⟩) (l.length + m.length : Nat) cap) (l ++ m) ∧ Kp (fun k => k = g) W (W.setRow g (cur.toList.take l.length ++ B8 (ints m) ++ cur.toList.drop (l.length + m.length)).toArray) := by
  refine ⟨⟨g, cap, _, fz, by rw [List.length_append], hb, setRow_heap W g cur _ 5 fz hh, hfz, by rw [List.length_append]; exact hr, hm, ?_, ?_⟩, ⟨rfl, rfl, rfl, by simp, fun k _ hk => setRow_other W g k _ (fun e => hk e)⟩⟩
  · simp [B8_length, ints_len]; omega
  · rw [ht, List.length_append, ints_app]
    have e : B8 (ints l ++ ints m) = B8 (ints l) ++ B8 (ints m) := by simp [B8]
    rw [e]
    have hx : (B8 (ints l) ++ B8 (ints m)).length = l.length + m.length := by simp [B8_length, ints_len]
    rw [← hx]
    exact List.take_left
theorem row_new {W : World} {B : Nat} {l : Str} {cap : Nat} (hB : B ≤ W.heap.size) (hc : l.length ≤ cap) (hm : cap ≤ maxLen) (z : Array Value) (hz : z.size = cap - l.length) :
    RowG (W.drew.alloc (.cells ((B8 (ints l)).toArray ++ z) 5)) B (.slice (some ⟨W.heap.size, 0, none⟩) l.length cap) l ∧ Kp (fun k => False) W (W.drew.alloc (.cells ((B8 (ints l)).toArray ++ z) 5)) := by
  refine ⟨⟨W.heap.size, cap, _, (0, 0), rfl, hB, heap_alloc_new W.drew _, .inl rfl, hc, hm, ?_, ?_⟩, ⟨rfl, rfl, rfl, by simp, fun k hk _ => Below.heap_alloc W.drew _ k hk⟩⟩
  · simp [B8_length, ints_len, hz]; omega
  · simp only [Array.toList_append]
    have hx : (B8 (ints l)).length = l.length := by simp [B8_length, ints_len]
    rw [← hx]
    exact List.take_left
theorem Kp.mono {S T : Nat → Prop} {W W1 : World} (h : Kp S W W1) (hs : ∀ k, S k → T k) : Kp T W W1 := ⟨h.os, h.tape, h.output, h.size, fun k hk hn => h.block k hk fun e => hn (hs k e)⟩
/-- a text appended -/
theorem RowG.appS {W : World} {B : Nat} {A : Option Addr} {n c : Nat} {l : Str} (h : RowG W B (.slice A n c) l) (hn : l.length = n) (hB : B ≤ W.heap.size) (m : Str) (hl : n + m.length ≤ 1000000) :
    ∃ A' c' W', (Builtin.append_ #[29, 9] 29 #[.slice A n c, .string (S m)]).run Tryz.prog W = .ok (.slice A' (n + m.length : Nat) c') W' ∧ RowG W' B (.slice A' (n + m.length : Nat) c') (l ++ m) ∧ Kp (fun k => (Value.slice A n c).ownBlock = some k) W W' := by
  subst hn
  obtain ⟨i0, hi, hz0, hz1, hz2⟩ := info_parts u8Info
  obtain ⟨g, cap, hv⟩ := h.form
  simp only [Value.slice.injEq, true_and] at hv
  obtain ⟨rfl, rfl⟩ := hv
  have hcl := h.cells
  obtain ⟨g', cap, cur, fz, hv, hb, hh, hfz, hnc, hm, hs, ht⟩ := h
  simp only [Value.slice.injEq, Option.some.injEq, Addr.mk.injEq] at hv
  obtain ⟨⟨rfl, _⟩, _, rfl⟩ := hv
  have hsm : (S m).size = m.length := S_size m
  by_cases hroom : l.length + m.length ≤ c
  · obtain ⟨r1, r2⟩ := row_grown (m := m) hb hh hfz hm hs ht hroom
    refine ⟨_, _, _, ?_, r1, r2.mono fun k e => by rw [e]; rfl⟩
    have hf := Lib.run_firstCells_string (P := Tryz.prog) W 1 (S m)
    have hst := store_g g l.length 5 fz (Lib.strCells (S m)) 0 cur W hh (by rcases hfz with h0 | h0; exact .inl h0; exact .inr (by rw [Lib.strCells_length, hsm]; omega)) (by rw [Lib.strCells_length, hsm]; omega) (Lib.strCells_oneCell _)
    rw [hsm] at hf
    simp only [Nat.add_zero, strCells_S, B8_length, ints_len] at hst
    rw [strCells_S] at hf
    simp [Builtin.append_, run_underlying Tryz.underlying29, run_underlying Tryz.underlying9, sizeOf, typeInfo, hi, hz1, Builtin.lenOf, hsm, hroom, hf, Addr.add_lit, hst]
  · have hr := Lib.run_append_grow_string (P := Tryz.prog) W 29 9 29 5 i0 (.int .u8 0) Tryz.underlying29 Tryz.underlying9 hi hz0 ⟨g, 0, none⟩ l.length c (B8 (ints l)) (by rw [hz1, B8_length, ints_len, Nat.mul_one]) hcl (S m) (by rw [hsm]; omega) (by rw [hsm]; omega) (by rw [hz2, hsm]; exact growslice_fits (by omega) (by omega))
    rw [hsm, strCells_S] at hr
    have hge := grownCap_ge W (l.length + m.length) c 5
    have hmx := grownCap_le_maxLen W (l.length + m.length) c 5 (by unfold maxLen; omega)
    obtain ⟨r1, r2⟩ := row_new (W := W) (B := B) (l := l ++ m) (cap := grownCap W (l.length + m.length) c 5) hB (by rw [List.length_append]; exact hge) hmx (Builtin.zeroCells (Value.int .u8 0).cells (grownCap W (l.length + m.length) c 5 - (l.length + m.length))) (by rw [size_zeroCells, List.length_append]; exact Nat.mul_one _)
    have e : (B8 (ints l)).toArray ++ (B8 (ints m)).toArray = (B8 (ints (l ++ m))).toArray := by rw [ints_app]; simp [B8]
    rw [e] at hr
    rw [List.length_append] at r1
    exact ⟨_, _, _, hr, r1, r2.mono fun k e => e.elim⟩
/-- a byte appended -/
theorem RowG.push {W : World} {B : Nat} {A : Option Addr} {n c : Nat} {l : Str} (h : RowG W B (.slice A n c) l) (hn : l.length = n) (hB : B ≤ W.heap.size) (x : UInt8) (hl : n ≤ 100000) :
    ∃ A' c' W', (Builtin.append_ #[29, 29] 29 #[.slice A n c, .slice (some ⟨W.heap.size, 0, none⟩) 1 1]).run Tryz.prog (W.alloc (.cells #[.int .u8 (x.toNat : Int)] 5)) = .ok (.slice A' (n + 1 : Nat) c') W' ∧ RowG W' B (.slice A' (n + 1 : Nat) c') (l ++ [x]) ∧ Kp (fun k => (Value.slice A n c).ownBlock = some k) W W' := by
  subst hn
  have hal : Below W.heap.size W (W.alloc (.cells #[.int .u8 (x.toNat : Int)] 5)) := (Below.refl _ _).alloc (Nat.le_refl _) _
  have h := h.below hal
  obtain ⟨i0, hi, hz0, hz1, hz2⟩ := info_parts u8Info
  have hnews : ∀ j u, (B8 (ints [x]))[j]? = some u → (W.alloc (.cells #[.int .u8 (x.toNat : Int)] 5)).cell? ((⟨W.heap.size, 0, none⟩ : Addr).add j) = some u := fun j u hu => by
    rw [Addr.add_lit, Nat.zero_add, lit_cell]
    simpa [B8, ints] using hu
  obtain ⟨W1, hW1⟩ : ∃ W1, W1 = W.alloc (.cells #[.int .u8 (x.toNat : Int)] 5) := ⟨_, rfl⟩
  rw [← hW1] at h hnews hal ⊢
  have hB1 : B ≤ W1.heap.size := Nat.le_trans hB hal.size
  obtain ⟨g, cap, hv⟩ := h.form
  simp only [Value.slice.injEq, true_and] at hv
  obtain ⟨rfl, rfl⟩ := hv
  have hcl := h.cells
  obtain ⟨g', cap, cur, fz, hv, hb, hh, hfz, hnc, hm, hs, ht⟩ := h
  simp only [Value.slice.injEq, Option.some.injEq, Addr.mk.injEq] at hv
  obtain ⟨⟨rfl, _⟩, _, rfl⟩ := hv
  have key : ∀ {A' : Option Addr} {c' : Nat} {W' : World} {T : Nat → Prop}, Kp T W1 W' → (∀ k, T k → (Value.slice (some ⟨g, 0, none⟩) l.length c).ownBlock = some k) → Kp (fun k => (Value.slice (some ⟨g, 0, none⟩) l.length c).ownBlock = some k) W W' := fun hk ht => 
    ⟨hk.os.trans hal.os, hk.tape.trans hal.tape, hk.output.trans hal.output, Nat.le_trans hal.size hk.size, fun k h1 h2 => (hk.block k (Nat.lt_of_lt_of_le h1 hal.size) (fun e => h2 (ht k e))).trans (hal.block k h1)⟩
  by_cases hroom : l.length + 1 ≤ c
  · obtain ⟨r1, r2⟩ := row_grown (m := [x]) hb hh hfz hm hs ht hroom
    refine ⟨_, _, _, ?_, r1, key (A' := none) (c' := 0) r2 fun k e => by rw [e]; rfl⟩
    have hf := run_firstCells_some (P := Tryz.prog) W1 1 1 ⟨W.heap.size, 0, none⟩ 1 1 (B8 (ints [x])) rfl hnews
    have hst := store_g g l.length 5 fz (B8 (ints [x])) 0 cur W1 hh (by rcases hfz with h0 | h0; exact .inl h0; exact .inr (by show l.length + 0 + 1 ≤ _; omega)) (by show l.length + 0 + 1 ≤ _; omega) (B8_one _)
    simp only [Nat.add_zero] at hst
    simp [Builtin.append_, run_underlying Tryz.underlying29, sizeOf, typeInfo, hi, hz1, Builtin.lenOf, hroom, hf, Addr.add_lit, hst]
    rfl
  · have hr := run_append_grow (P := Tryz.prog) W1 29 29 5 i0 (.int .u8 0) Tryz.underlying29 hi hz0 ⟨g, 0, none⟩ l.length c (B8 (ints l)) (by rw [hz1, B8_length, ints_len, Nat.mul_one]) hcl ⟨W.heap.size, 0, none⟩ 1 1 (B8 (ints [x])) (by rw [hz1]; rfl) hnews (by omega) (by omega) (by rw [hz2]; exact growslice_fits (by omega) (by omega))
    have hge := grownCap_ge W1 (l.length + 1) c 5
    have hmx := grownCap_le_maxLen W1 (l.length + 1) c 5 (by unfold maxLen; omega)
    obtain ⟨r1, r2⟩ := row_new (W := W1) (B := B) (l := l ++ [x]) (cap := grownCap W1 (l.length + 1) c 5) hB1 (by rw [List.length_append]; exact hge) hmx (Builtin.zeroCells (Value.int .u8 0).cells (grownCap W1 (l.length + 1) c 5 - (l.length + 1))) (by rw [size_zeroCells, List.length_append]; exact Nat.mul_one _)
    have e : (B8 (ints l)).toArray ++ (B8 (ints [x])).toArray = (B8 (ints (l ++ [x]))).toArray := by rw [ints_app]; simp [B8]
    rw [e] at hr
    rw [List.length_append] at r1
    exact ⟨_, _, _, hr, r1, key (A' := none) (c' := 0) r2 fun k e => e.elim⟩
/-- the empty literal -/
theorem rowG_lit (W : World) : RowG (W.alloc (.cells #[] 5)) W.heap.size (.slice (some ⟨W.heap.size, 0, none⟩) (0 : Nat) 0) [] :=
  ⟨W.heap.size, 0, #[], (0, 0), rfl, Nat.le_refl _, heap_alloc_new W _, .inl rfl, Nat.le_refl _, by unfold maxLen; omega, rfl, rfl⟩
/-- bytes appended -/
theorem RowG.appB {W : World} {B : Nat} {A : Option Addr} {n c : Nat} {l : Str} (h : RowG W B (.slice A n c) l) (hn : l.length = n) (hB : B ≤ W.heap.size) {ok : Nat → Prop} {A2 : Option Addr} {m d : Nat} {ys : Str} (hs : Spell W ok A2 m d ys) (hl : n + m ≤ 100000) :
    ∃ A' c' W', (Builtin.append_ #[29, 29] 29 #[.slice A n c, .slice A2 m d]).run Tryz.prog W = .ok (.slice A' (n + m : Nat) c') W' ∧ RowG W' B (.slice A' (n + m : Nat) c') (l ++ ys) ∧ Kp (fun k => (Value.slice A n c).ownBlock = some k) W W' := by
  subst hn
  obtain ⟨i0, hi, hz0, hz1, hz2⟩ := info_parts u8Info
  have hym := spell_len hs
  obtain ⟨g, cap, hv⟩ := h.form
  simp only [Value.slice.injEq, true_and] at hv
  obtain ⟨rfl, rfl⟩ := hv
  have hcl := h.cells
  have h0 := h
  obtain ⟨g', cap, cur, fz, hv, hb, hh, hfz, hnc, hm, hsz, ht⟩ := h
  simp only [Value.slice.injEq, Option.some.injEq, Addr.mk.injEq] at hv
  obtain ⟨⟨rfl, _⟩, _, rfl⟩ := hv
  cases A2 with
  | none =>
    have hd := hs.non rfl
    have hm0 : m = 0 := by have := hs.cap; omega
    subst hd hm0
    have hy : ys = [] := List.eq_nil_of_length_eq_zero hym
    subst hy
    refine ⟨some ⟨g, 0, none⟩, c, W, ?_, by simpa using h0, ⟨rfl, rfl, rfl, Nat.le_refl _, fun _ _ _ => rfl⟩⟩
    simp [Builtin.append_, run_underlying Tryz.underlying29, sizeOf, typeInfo, hi, Builtin.lenOf, Builtin.firstCells, hnc, loadCells, storeCells]
  | some a =>
    have hnews : ∀ j u, (B8 (ints ys))[j]? = some u → W.cell? (a.add j) = some u := fun j u hu => by
      have hj : j < m := by
        have := (List.getElem?_eq_some_iff.1 hu).1
        rw [B8_length, ints_len, hym] at this
        exact this
      rw [hs.add_cell rfl j hj, ← hu]
      simp [B8, List.getD, ints_len, hym, hj]
    have hlen : (B8 (ints ys)).length = m := by rw [B8_length, ints_len, hym]
    by_cases hroom : l.length + m ≤ c
    · obtain ⟨r1, r2⟩ := row_grown (m := ys) hb hh hfz hm hsz ht (by rw [hym]; exact hroom)
      rw [hym] at r1 r2
      refine ⟨_, _, _, ?_, r1, r2.mono fun k e => by rw [e]; rfl⟩
      have hf := run_firstCells_some (P := Tryz.prog) W 1 m a m d (B8 (ints ys)) (by rw [hlen, Nat.mul_one]) hnews
      have hst := store_g g l.length 5 fz (B8 (ints ys)) 0 cur W hh (by rcases hfz with h0 | h0; exact .inl h0; exact .inr (by rw [hlen]; omega)) (by rw [hlen]; omega) (B8_one _)
      simp only [Nat.add_zero, hlen] at hst
      simp [Builtin.append_, run_underlying Tryz.underlying29, sizeOf, typeInfo, hi, hz1, Builtin.lenOf, hroom, hf, Addr.add_lit, hst]
    · have hr := run_append_grow (P := Tryz.prog) W 29 29 5 i0 (.int .u8 0) Tryz.underlying29 hi hz0 ⟨g, 0, none⟩ l.length c (B8 (ints l)) (by rw [hz1, B8_length, ints_len, Nat.mul_one]) hcl a m d (B8 (ints ys)) (by rw [hz1, hlen, Nat.mul_one]) hnews (by omega) (by omega) (by rw [hz2]; exact growslice_fits (by omega) (by omega))
      have hge := grownCap_ge W (l.length + m) c 5
      have hmx := grownCap_le_maxLen W (l.length + m) c 5 (by unfold maxLen; omega)
      obtain ⟨r1, r2⟩ := row_new (W := W) (B := B) (l := l ++ ys) (cap := grownCap W (l.length + m) c 5) hB (by rw [List.length_append, hym]; exact hge) hmx (Builtin.zeroCells (Value.int .u8 0).cells (grownCap W (l.length + m) c 5 - (l.length + m))) (by rw [size_zeroCells, List.length_append, hym]; exact Nat.mul_one _)
      have e : (B8 (ints l)).toArray ++ (B8 (ints ys)).toArray = (B8 (ints (l ++ ys))).toArray := by rw [ints_app]; simp [B8]
      rw [e] at hr
      rw [List.length_append, hym] at r1
      exact ⟨_, _, _, hr, r1, r2.mono fun k e => e.elim⟩
theorem RowG.kp_below {W W' : World} {B : Nat} {v : Value} {l : Str} (h : RowG W B v l) (hB : B ≤ W.heap.size) (hk : Kp (fun k => v.ownBlock = some k) W W') : Below B W W' := hk.below hB fun k h1 h2 => by have := (h.lt h2).1; omega
end Go.Proofs.YtghdaengkgiekaaGreatDoor.hd

/-
  Given for the seat's laws: fields that can be read where they lie, two fields compared; the contracts of Lower, Name, slices.Equal, Same. No condition but those of the theorems.
-/
namespace Go.Proofs.YtghdaengkgiekaaGreatDoor.hd
open Go.RowKit mem
set_option linter.unusedVariables false

theorem beq_S (a b : Str) : ((S a).toList == (S b).toList) = decide (a = b) := by
  by_cases h : a = b
  · subst h; simp
  · rw [(str_ne h).1]; simp [h]
theorem beqS (a b : Str) : (S a == S b) = decide (a = b) := by rw [beq_toListBytes, beq_S]
theorem eq_two_d (d : Nat) (p q : Str × Str) (W : World) : (Op.equalIn (d + 2) 54 (.agg #[.string (S p.1), .string (S p.2)]) (.agg #[.string (S q.1), .string (S q.2)])).run Tryz.prog W = .ok (decide (p = q)) W := by
  obtain ⟨a, b⟩ := p
  obtain ⟨c, e⟩ := q
  obtain ⟨i0, hi, hz0, hz1, hz2⟩ := info_parts (show (Tryz.prog.info? 9).map (fun i => (i.zero, i.size, i.bytes)) = some (some (.string ⟨#[]⟩), 1, 16) by kernel_rfl)
  have hs : (sizeOf 9).run Tryz.prog W = .ok 1 W := by simp [sizeOf, typeInfo, hi, hz1]
  have hag : (isAgg 9).run Tryz.prog W = .ok false W := by simp [isAgg, run_underlying Tryz.underlying9]
  have hp : ∀ (cs : Array Value) (i : Nat) (v : Value), cs[i]? = some v → (part 9 cs i).run Tryz.prog W = .ok v W := fun cs i v h => by
    simp [part, hag, h]
  simp only [Op.equalIn, Sem.run_bind, run_underlying Tryz.underlying54, Result.andThen_ok, hs]
  rw [Std.Legacy.Range.forIn_eq_forIn_range']
  simp [List.range', hp, beqS]
  by_cases e1 : a = c
  · by_cases e2 : b = e
    · simp [e1, e2]
    · simp [e1, e2]
  · simp [e1]
theorem eq_two (p q : Str × Str) (W : World) : (binOp .eql 54 (.agg #[.string (S p.1), .string (S p.2)]) (.agg #[.string (S q.1), .string (S q.2)])).run Tryz.prog W = .ok (.bool (decide (p = q))) W := by
  rw [run_eql_struct, eq_two_d 9998]
  rfl
theorem neq_two (p q : Str × Str) (W : World) : (binOp .neq 54 (.agg #[.string (S p.1), .string (S p.2)]) (.agg #[.string (S q.1), .string (S q.2)])).run Tryz.prog W = .ok (.bool (!decide (p = q))) W := by
  rw [run_neq_struct, eq_two_d 9998]
  rfl

/-! ### fields as they lie -/
structure FAt (W : World) (ok : Nat → Prop) (A : Option Addr) (n c : Nat) (fs : Flds) : Prop where
  len : fs.length = n
  cap : n ≤ c
  max : c ≤ maxLen
  non : A = none → c = 0
  lies : 0 < n → ∃ g off, A = some ⟨g, off, none⟩ ∧ ok g ∧ ∀ j u, (flat2 fs)[j]? = some u → W.cell? ⟨g, off + j, none⟩ = some u
section
variable {W W' : World} {ok ok' : Nat → Prop} {A : Option Addr} {n c : Nat} {fs : Flds}
theorem FAt.keep (h : FAt W ok A n c fs) (hk : ∀ g, ok g → W'.heap[g]? = W.heap[g]?) : FAt W' ok A n c fs := ⟨h.len, h.cap, h.max, h.non, fun h0 => by
  obtain ⟨g, off, e, ho, hc⟩ := h.lies h0
  exact ⟨g, off, e, ho, fun j u hu => (World.cell?_of_block (hk g ho)).trans (hc j u hu)⟩⟩
theorem FAt.weak (h : FAt W ok A n c fs) (hk : ∀ g, ok g → ok' g) : FAt W ok' A n c fs := ⟨h.len, h.cap, h.max, h.non, fun h0 => by
  obtain ⟨g, off, e, ho, hc⟩ := h.lies h0
  exact ⟨g, off, e, hk g ho, hc⟩⟩
theorem FAt.below {B : Nat} (h : FAt W ok A n c fs) (hb : Below B W W') (hg : ∀ g, ok g → g < B) : FAt W' ok A n c fs := h.keep fun g hk => hb.block g (hg g hk)
theorem FAt.at (h : FAt W ok A n c fs) {i : Nat} {p : Str × Str} (hp : fs[i]? = some p) : ∃ g off, A = some ⟨g, off, none⟩ ∧ ok g ∧ W.cell? ⟨g, off + i * 2, none⟩ = some (.string (S p.1)) ∧ W.cell? ⟨g, off + i * 2 + 1, none⟩ = some (.string (S p.2)) := by
  have hi := (List.getElem?_eq_some_iff.1 hp).1
  obtain ⟨g, off, e, ho, hc⟩ := h.lies (by have := h.len; omega)
  obtain ⟨h1, h2⟩ := flat2_at hp
  refine ⟨g, off, e, ho, ?_, ?_⟩
  · rw [Nat.mul_comm]; exact hc _ _ h1
  · rw [Nat.mul_comm, Nat.add_assoc]; exact hc _ _ h2
theorem FAt.nil (W : World) (ok : Nat → Prop) : FAt W ok none 0 0 [] := ⟨rfl, Nat.le_refl _, by unfold maxLen; omega, fun _ => rfl, fun h => absurd h (by omega)⟩
end
theorem rowF_at {W : World} {B : Nat} {A : Option Addr} {n c : Nat} {fs : Flds} (h : RowF W B (.slice A n c) fs) (hn : fs.length = n) : FAt W (fun g => g < W.heap.size) A n c fs := by
  subst hn
  rcases h.2 with ⟨hv, _⟩ | ⟨g, cap, cur, hv, hb, hh, hnc, hm, hs, ht⟩
  · simp only [Value.slice.injEq] at hv
    obtain ⟨rfl, h0, rfl⟩ := hv
    have : fs = [] := List.eq_nil_of_length_eq_zero h0
    subst this
    exact FAt.nil _ _
  · simp only [Value.slice.injEq] at hv
    obtain ⟨rfl, _, rfl⟩ := hv
    refine ⟨rfl, hnc, hm, fun e => (by cases e), fun _ => ⟨g, 0, rfl, (Array.getElem?_eq_some_iff.1 hh).1, fun j u hu => ?_⟩⟩
    rw [Nat.zero_add]
    rw [← ht, List.getElem?_take] at hu
    split at hu
    · simp only [World.cell?, hh]
      simpa using hu
    · cases hu
theorem rowF_form {W : World} {B : Nat} {v : Value} {fs : Flds} (h : RowF W B v fs) : ∃ A c, v = .slice A fs.length c := rown_form h

/-! ### Lower, Name -/
theorem low_len (l : Str) : (low l).length = l.length := by simp [low]
theorem low_at {l : Str} {i : Nat} {x : UInt8} (h : l[i]? = some x) : (low (l.take i) ++ l.drop i).set i (lw x) = low (l.take (i + 1)) ++ l.drop (i + 1) := by
  obtain ⟨hi, rfl⟩ := List.getElem?_eq_some_iff.1 h
  have e : (low (l.take i)).length = i := by rw [low_len]; simp; omega
  rw [List.set_append_right _ _ (by omega), e, Nat.sub_self, List.drop_eq_getElem_cons hi, List.set_cons_zero]
  have e2 : l.take (i + 1) = l.take i ++ [l[i]] := by rw [List.take_add_one, List.getElem?_eq_getElem hi]; rfl
  rw [e2, low_app]
  simp only [low, List.map_cons, List.map_nil, List.append_assoc, List.singleton_append]
theorem low_here {l : Str} {i : Nat} {x : UInt8} (h : l[i]? = some x) : (low (l.take i) ++ l.drop i)[i]? = some x := by
  have hi := (List.getElem?_eq_some_iff.1 h).1
  have e : (low (l.take i)).length = i := by rw [low_len]; simp; omega
  rw [List.getElem?_append_right (by omega), e, Nat.sub_self]
  simpa using h
set_option maxHeartbeats 2000000 in
set_option maxRecDepth 20000 in
theorem Lower_any (l : Str) (hl : l.length ≤ 100000) (w : World) : Calls Tryz.prog 22 #[.string (S l)] w (Gives (.string (S (low l))) w) := by
  have hconv := conv_any (S l) w
  rw [S_size] at hconv
  have hr := conv_row l w (by omega)
  have hb := conv_below (S l) w
  generalize Lib.bytesWorld w 5 (S l) = W0 at *
  generalize grownCap w l.length 0 5 = c at *
  obtain ⟨n, hn⟩ : ∃ n, l.length = n := ⟨_, rfl⟩
  rw [hn] at hconv hr hl
  have HR := Bx.mk hr
  have HB := Bx.mk hb
  have HN := Bx.mk hn
  clear hr hb hn
  go_enter Tryz.func22, Tryz.ntmps22
  go_wp2_with fail
  go_loopw [10] (fun s10 wr => ∃ i : Nat, i ≤ n ∧ s10 = .int .i64 (i : Int) ∧ Bx (RowG wr w.heap.size (.slice (some ⟨w.heap.size, 0, none⟩) n c) (low (l.take i) ++ l.drop i)) ∧ Bx (Below w.heap.size w wr)) (fun s10 _ => n - (intOf s10).toNat)
  case atStart => exact ⟨0, by omega, rfl, HR, HB⟩
  case round =>
    clear HR HB
    obtain ⟨i, hi, rfl, HR, HB⟩ := hrel
    have hlen : (low (l.take i) ++ l.drop i).length = n := by
      have := HN.out
      rw [List.length_append, low_len]
      simp
      omega
    by_cases hlt : i < n
    · obtain ⟨x, hx⟩ : ∃ x, l[i]? = some x := ⟨_, List.getElem?_eq_getElem (by rw [HN.out]; exact hlt)⟩
      obtain ⟨g, off, hg, hgo, hc⟩ := spell_cell (HR.out.spell hlen) (low_here hx)
      obtain ⟨g2, old, hg2, hold, hfro, hbg, hset⟩ := HR.out.set hlen hlt (lw x)
      rw [low_at hx] at hset
      cases hg
      cases hg2
      have i0 : (0 : Int) ≤ (i : Int) := by omega
      have i1 : (i : Int) < (n : Int) := by omega
      have HL := Bx.mk (lower_any x wr)
      have HS := Bx.mk hset
      have HB2 := Bx.mk (HB.out.setCell (p := ⟨w.heap.size, i, none⟩) (Nat.le_refl _) (.int .u8 ((lw x).toNat : Int)))
      rw [Nat.zero_add] at hc
      clear hset hx hbg hgo hlen HR hold
      generalize ((lw x).toNat : Int) = y at *
      generalize (x.toNat : Int) = z at *
      go_wp2_with fail
      refine HL.out.mono ?_
      rintro e w2 ⟨rfl, rfl⟩
      go_wp2_with fail
      go_roundw
      case rel => exact ⟨i + 1, by omega, by go_num, HS, HB2⟩
      case measure => simp [intOf]; omega
    · obtain rfl : i = n := by omega
      have e : low (l.take i) ++ l.drop i = low l := by
        rw [List.take_of_length_le (by rw [HN.out]; exact Nat.le_refl _), List.drop_of_length_le (by rw [HN.out]; exact Nat.le_refl _), List.append_nil]
      rw [e] at HR hlen
      have hst := spell_str (HR.out.spell hlen)
      clear e hlen
      go_wp2_with fail
      exact bodyPost_ret (v := .string (S (low l))) (by simp [results, Tryz.results22, go_sem]) rfl ⟨rfl, HB.out⟩
/-! ### slices.Equal, Same -/
theorem take_eq_add {a b : Flds} {i : Nat} {x y : Str × Str} (h : a.take i = b.take i) (hx : a[i]? = some x) (hy : b[i]? = some y) (e : x = y) : a.take (i + 1) = b.take (i + 1) := by
  rw [List.take_add_one, List.take_add_one, h, hx, hy, e]
set_option maxHeartbeats 4000000 in
set_option maxRecDepth 100000 in
theorem equal_any {w : World} {oka okb : Nat → Prop} {A B : Option Addr} {n c m d : Nat} {a b : Flds} (ha : FAt w oka A n c a) (hka : ∀ g, oka g → g < w.heap.size) (hb : FAt w okb B m d b) (hkb : ∀ g, okb g → g < w.heap.size) (hmx : n ≤ 100000) :
    Calls Tryz.prog 71 #[.slice A n c, .slice B m d] w fun e w' => e = .returned (.bool (decide (a = b))) ∧ Below w.heap.size w w' := by
  obtain ⟨r, hr⟩ : ∃ r, decide (a = b) = r := ⟨_, rfl⟩
  rw [hr]
  have HR := Bx.mk hr
  have HN := Bx.mk ha.len
  have HM := Bx.mk hb.len
  by_cases hnm : n = m
  · subst hnm
    have HA := Bx.mk ha
    have HBB := Bx.mk hb
    have H0 := Bx.mk (Below.refl w.heap.size w)
    have HKA := Bx.mk hka
    have HKB := Bx.mk hkb
    have hnn : ((n : Int) != (n : Int)) = false := by simp
    clear ha hb hr hka hkb
    go_enter Tryz.func71, Tryz.ntmps71
    go_wp2_with fail
    go_loopw [13] (fun s13 wr => ∃ i : Nat, i ≤ n ∧ s13 = .int .i64 (i : Int) ∧ Bx (a.take i = b.take i) ∧ Bx (Below w.heap.size w wr)) (fun s13 _ => n - (intOf s13).toNat)
    case atStart => exact ⟨0, by omega, rfl, ⟨rfl⟩, H0⟩
    case round =>
      clear H0
      obtain ⟨i, hi, rfl, HT, HB⟩ := hrel
      by_cases hlt : i < n
      · obtain ⟨x, hx⟩ : ∃ x, a[i]? = some x := ⟨_, List.getElem?_eq_getElem (by rw [HN.out]; exact hlt)⟩
        obtain ⟨y, hy⟩ : ∃ y, b[i]? = some y := ⟨_, List.getElem?_eq_getElem (by rw [HM.out]; exact hlt)⟩
        obtain ⟨g1, o1, rfl, ho1, c1, c1'⟩ := (HA.out.below HB.out HKA.out).at hx
        obtain ⟨g2, o2, rfl, ho2, c2, c2'⟩ := (HBB.out.below HB.out HKB.out).at hy
        have HX := Bx.mk hx
        have HY := Bx.mk hy
        have HB1 := Bx.mk HB.out.drew
        have i0 : (0 : Int) ≤ (i : Int) := by omega
        have i1 : (i : Int) < (n : Int) := by omega
        by_cases e : x = y
        · have HT2 := Bx.mk (take_eq_add HT.out hx hy e)
          have hq := eq_two_d 9998 x y wr.drew
          rw [decide_eq_true e] at hq
          clear hx hy HB ho1 ho2 e
          go_upto_region 6 with fail
          go_region
          all_goals
            go_wp2_with fail
            go_roundw
            case rel => exact ⟨i + 1, by omega, by go_num, HT2, HB1⟩
            case measure => simp [intOf]; omega
        · have hf : r = false := by
            rw [← HR.out]
            refine decide_eq_false fun e2 => e ?_
            rw [e2, hy] at hx
            exact (Option.some.inj hx).symm
          subst hf
          have hq := eq_two_d 9998 x y wr.drew
          rw [decide_eq_false e] at hq
          clear hx hy HB ho1 ho2 e
          go_upto_region 6 with fail
          go_region
          all_goals
            go_wp2_with fail
            exact bodyPost_ret (v := .bool false) (by simp [results, Tryz.results71, go_sem]) rfl ⟨rfl, HB1.out⟩
      · obtain rfl : i = n := by omega
        have ht : r = true := by
          rw [← HR.out]
          have := HT.out
          rw [List.take_of_length_le (by rw [HN.out]; exact Nat.le_refl _), List.take_of_length_le (by rw [HM.out]; exact Nat.le_refl _)] at this
          exact decide_eq_true this
        subst ht
        go_wp2_with fail
        exact bodyPost_ret (v := .bool true) (by simp [results, Tryz.results71, go_sem]) rfl ⟨rfl, HB.out⟩
  · have hf : r = false := by
      rw [← hr]
      refine decide_eq_false fun e => hnm ?_
      rw [← HN.out, ← HM.out, e]
    subst hf
    have hnn : ((n : Int) != (m : Int)) = true := by simp; omega
    clear hr ha hb hnm hka hkb
    go_enter Tryz.func71, Tryz.ntmps71
    go_wp2_with fail
    exact bodyPost_ret (v := .bool false) (by simp [results, Tryz.results71, go_sem]) rfl ⟨rfl, Below.refl _ _⟩
/-! ### heads as values -/
/-- a head as it is handed: the line, the fields readable in what lay below B -/
structure Hd (W : World) (ok : Nat → Prop) (v : Value) (l : Str) (fs : Flds) : Prop where
  ex : ∃ A n c, v = .agg #[.string (S l), .slice A n c] ∧ FAt W ok A n c fs
theorem Hd.keep {W W' : World} {ok : Nat → Prop} {v : Value} {l : Str} {fs : Flds} (h : Hd W ok v l fs) (hk : ∀ g, ok g → W'.heap[g]? = W.heap[g]?) : Hd W' ok v l fs := by
  obtain ⟨A, n, c, e, h⟩ := h.ex
  exact ⟨A, n, c, e, h.keep hk⟩
theorem Hd.weak {W : World} {ok ok' : Nat → Prop} {v : Value} {l : Str} {fs : Flds} (h : Hd W ok v l fs) (hk : ∀ g, ok g → ok' g) : Hd W ok' v l fs := by
  obtain ⟨A, n, c, e, h⟩ := h.ex
  exact ⟨A, n, c, e, h.weak hk⟩
set_option maxHeartbeats 2000000 in
theorem Same_any {w : World} {oka okb : Nat → Prop} {va vb : Value} {la lb : Str} {a b : Flds} (ha : Hd w oka va la a) (hka : ∀ g, oka g → g < w.heap.size) (hb : Hd w okb vb lb b) (hkb : ∀ g, okb g → g < w.heap.size) (hmx : a.length ≤ 100000) :
    Calls Tryz.prog 42 #[va, vb] w fun e w' => e = .returned (.bool (decide (la = lb ∧ a = b))) ∧ Below w.heap.size w w' := by
  obtain ⟨A, n, c, rfl, ha2⟩ := ha.ex
  obtain ⟨B, m, d, rfl, hb2⟩ := hb.ex
  clear ha hb
  have ha := ha2
  have hb := hb2
  clear ha2 hb2
  have hn := ha.len
  by_cases e : la = lb
  · have heq : ((S la).toList == (S lb).toList) = true := by rw [beq_S, decide_eq_true e]
    have e2 : decide (la = lb ∧ a = b) = decide (a = b) := by simp [e]
    rw [e2]
    have hal : Below w.heap.size w ((w.alloc (.cells #[.string (S la), .slice A n c] 47)).alloc (.cells #[.string (S lb), .slice B m d] 47)) := ((Below.refl _ _).alloc (Nat.le_refl _) _).alloc (by simp) _
    have HAL := Bx.mk hal
    have HE := Bx.mk (@equal_any ((w.alloc (.cells #[.string (S la), .slice A n c] 47)).alloc (.cells #[.string (S lb), .slice B m d] 47)) oka okb A B n c m d a b (ha.below hal hka) (fun g hg => Nat.lt_of_lt_of_le (hka g hg) hal.size) (hb.below hal hkb) (fun g hg => Nat.lt_of_lt_of_le (hkb g hg) hal.size) (by omega))
    generalize decide (a = b) = r at *
    clear hal ha hb hka hkb e e2
    go_enter Tryz.func42, Tryz.ntmps42
    go_wp2_with fail
    refine HE.out.mono ?_
    rintro e w2 ⟨rfl, h2⟩
    have HB := Bx.mk (HAL.out.trans (h2.mono HAL.out.size))
    clear h2 HAL HE
    go_wp2_with fail
    exact bodyPost_ret (v := .bool r) (by simp [results, Tryz.results42, go_sem]) rfl ⟨rfl, HB.out⟩
  · have heq : ((S la).toList == (S lb).toList) = false := by rw [beq_S, decide_eq_false e]
    have e2 : decide (la = lb ∧ a = b) = false := by simp [e]
    rw [e2]
    have HB : Bx (Below w.heap.size w ((w.alloc (.cells #[.string (S la), .slice A n c] 47)).alloc (.cells #[.string (S lb), .slice B m d] 47))) := ⟨((Below.refl _ _).alloc (Nat.le_refl _) _).alloc (by simp) _⟩
    clear ha hb hka hkb e e2
    go_enter Tryz.func42, Tryz.ntmps42
    go_wp2_with fail
    exact bodyPost_ret (v := .bool false) (by simp [results, Tryz.results42, go_sem]) rfl ⟨rfl, HB.out⟩
end Go.Proofs.YtghdaengkgiekaaGreatDoor.hd

/-
  Given for the seat's laws: texts joined, rows of texts of the call's own; the contract of Values. No condition but those of the theorems.
-/
namespace Go.Proofs.YtghdaengkgiekaaGreatDoor.hd
open Go.RowKit mem
set_option linter.unusedVariables false

theorem cat (a b : Str) (ha : a.length ≤ 1000000) (hb : b.length ≤ 1000000) (W : World) : (Op.stringOp .add (S a) (S b)).run Tryz.prog W = .ok (.string (S (a ++ b))) W := by
  rw [run_string_add W _ _ (by rw [S_size]; omega) (by rw [S_size]; omega), S_append]
def strv (l : List Str) : List Value := l.map fun s => .string (S s)
theorem strv_len (l : List Str) : (strv l).length = l.length := by simp [strv]
abbrev RowS (W : World) (B : Nat) (v : Value) (l : List Str) : Prop := W.ownsRow B 9 1 v l.length (strv l)
theorem strInfo : (Tryz.prog.info? 9).map (fun i => (i.zero, i.size, i.bytes)) = some (some (.string ⟨#[]⟩), 1, 16) := by kernel_rfl
/-- a text more -/
theorem pushS {W : World} {B : Nat} {A : Option Addr} {n c : Nat} {l : List Str} (h : RowS W B (.slice A n c) l) (hn : l.length = n) (hB : B ≤ W.heap.size) (s : Str) (hl : n ≤ 100000) :
    ∃ A' c' W', (Builtin.append_ #[50, 50] 50 #[.slice A n c, .slice (some ⟨W.heap.size, 0, none⟩) 1 1]).run Tryz.prog (W.alloc (.cells #[.string (S s)] 9)) = .ok (.slice A' (n + 1 : Nat) c') W' ∧
      RowS W' B (.slice A' (n + 1 : Nat) c') (l ++ [s]) ∧ Kp (fun k => (Value.slice A n c).ownBlock = some k) W W' := by
  subst hn
  obtain ⟨i0, hinf, hz0, hz1, hz2⟩ := info_parts strInfo
  have h3 := rown_same (w' := W.alloc (.cells #[.string (S s)] 9)) h (fun g hg => Below.heap_alloc _ _ _ (rown_lt h hg).2)
  obtain ⟨v', W', hr, ho, hg, _⟩ := run_append_own (P := Tryz.prog) (W.alloc (.cells #[.string (S s)] 9)) B 50 50 9 i0 _ 1 16 Tryz.underlying50 hinf hz0 hz1 hz2 rfl (by decide) _ _ _ h3 ⟨W.heap.size, 0, none⟩ 1 1 [.string (S s)] rfl (fun j u hu => by
    rw [Addr.add_lit, Nat.zero_add, lit_cell]
    simpa using hu) (by simp [Value.oneCell']) (by unfold maxLen; omega) (by omega) (by simp; omega)
  obtain ⟨A', c', rfl⟩ := rown_form ho
  have e : strv (l ++ [s]) = strv l ++ [.string (S s)] := by simp [strv]
  have el : (l ++ [s]).length = l.length + 1 := by simp
  refine ⟨A', c', W', hr, by unfold RowS; rw [el, e]; exact ho, ⟨hg.os, hg.tape, hg.output, by have := hg.size; simp at this; omega, fun k hk hs => ?_⟩⟩
  rw [hg.block k (by simp; omega) (fun e => hs e.symm)]
  exact Below.heap_alloc _ _ _ hk
theorem RowS.kp_below {W W' : World} {B : Nat} {v : Value} {l : List Str} (h : RowS W B v l) (hB : B ≤ W.heap.size) (hk : Kp (fun k => v.ownBlock = some k) W W') : Below B W W' := hk.below hB fun k h1 h2 => by have := (rown_lt h h2).1; omega
/-- the values of the fields of that name -/
def vals (fs : Flds) (name : Str) : List Str := (fs.filter fun p => decide (p.1 = name)).map (·.2)
theorem vals_add {fs : Flds} {i : Nat} {p : Str × Str} (h : fs[i]? = some p) (name : Str) : vals (fs.take (i + 1)) name = vals (fs.take i) name ++ (if p.1 = name then [p.2] else []) := by
  unfold vals
  rw [List.take_add_one, h, List.filter_append, List.map_append]
  by_cases e : p.1 = name <;> simp [e]
theorem vals_len (fs : Flds) (name : Str) : (vals fs name).length ≤ fs.length := by
  unfold vals
  rw [List.length_map]
  exact List.length_filter_le _ _
def ValsTo (vs : List Str) (w : World) (e : Ending) (w' : World) : Prop := ∃ A c, e = .returned (.slice A vs.length c) ∧ RowS w' w.heap.size (.slice A vs.length c) vs ∧ Below w.heap.size w w'
set_option maxHeartbeats 4000000 in
set_option maxRecDepth 100000 in
theorem Values_any {w : World} {ok : Nat → Prop} {A : Option Addr} {n c : Nat} {l : Str} {fs : Flds} (hf : FAt w ok A n c fs) (hok : ∀ g, ok g → g < w.heap.size) (hn : n ≤ 10000) (name : Str) : Calls Tryz.prog 20 #[.agg #[.string (S l), .slice A n c], .string (S name)] w (ValsTo (vals fs name) w) := by
  have HN := Bx.mk hf.len
  have b0 : Below w.heap.size w (w.alloc (.cells #[.string (S l), .slice A n c] 47)) := (Below.refl _ _).alloc (Nat.le_refl _) _
  have HF := Bx.mk hf
  have HO := Bx.mk hok
  have H0 : Bx (RowS (w.alloc (.cells #[.string (S l), .slice A n c] 47)) w.heap.size (.slice none 0 0) []) := ⟨World.ownsRow_nil _ _ _ _⟩
  have HB0 := Bx.mk b0
  clear hf hok b0
  go_enter Tryz.func20, Tryz.ntmps20
  go_wp2_with fail
  go_loopw [5, 11] (fun s5 s11 wr => ∃ (i m d : Nat) (A2 : Option Addr), i ≤ n ∧ s11 = .int .i64 (i : Int) ∧ s5 = .slice A2 m d ∧ Bx ((vals (fs.take i) name).length = m ∧ RowS wr w.heap.size (.slice A2 m d) (vals (fs.take i) name) ∧ Below w.heap.size w wr)) (fun s5 s11 _ => n - (intOf s11).toNat)
  case atStart => exact ⟨0, 0, 0, none, by omega, rfl, rfl, ⟨rfl, H0.out, HB0.out⟩⟩
  case round =>
    clear H0 HB0
    obtain ⟨i, m, d, A2, hi, rfl, rfl, H⟩ := hrel
    by_cases hlt : i < n
    · obtain ⟨p, hp⟩ : ∃ p, fs[i]? = some p := ⟨_, List.getElem?_eq_getElem (by rw [HN.out]; exact hlt)⟩
      obtain ⟨g, off, rfl, hg, z0, z1⟩ := (HF.out.below H.out.2.2 HO.out).at hp
      have i0 : (0 : Int) ≤ (i : Int) := by omega
      have i1 : (i : Int) < (n : Int) := by omega
      have hva := vals_add hp name
      by_cases hpn : p.1 = name
      · have heq : ((S p.1).toList == (S name).toList) = true := by rw [beq_S, decide_eq_true hpn]
        rw [if_pos hpn] at hva
        have hmn : m ≤ n := by
          have h1 := vals_len (fs.take i) name
          rw [H.out.1] at h1
          simp at h1
          omega
        have hal : Below wr.heap.size wr (wr.alloc (.cells #[.string (S p.1), .string (S p.2)] 54)) := (Below.refl _ _).alloc (Nat.le_refl _) _
        have hrow := rown_same (w' := wr.alloc (.cells #[.string (S p.1), .string (S p.2)] 54)) H.out.2.1 (fun k hk => hal.block k (rown_lt H.out.2.1 hk).2)
        have hB : w.heap.size ≤ (wr.alloc (.cells #[.string (S p.1), .string (S p.2)] 54)).heap.size := Nat.le_trans H.out.2.2.size hal.size
        obtain ⟨A3, d3, W3, hr, ho, hk⟩ := pushS hrow H.out.1 hB p.2 (by omega)
        have HR : Bx ((Builtin.append_ #[50, 50] 50 #[.slice A2 m d, .slice (some ⟨(wr.alloc (.cells #[.string (S p.1), .string (S p.2)] 54)).heap.size, 0, none⟩) 1 1]).run Tryz.prog ((wr.alloc (.cells #[.string (S p.1), .string (S p.2)] 54)).alloc (.cells #[.string (S p.2)] 9)) = .ok (.slice A3 (m + 1 : Nat) d3) W3) := ⟨hr⟩
        have es : (wr.alloc (.cells #[.string (S p.1), .string (S p.2)] 54)).heap.size = wr.heap.size + 1 := by simp
        have HX : Bx ((vals (fs.take (i + 1)) name).length = m + 1 ∧ RowS W3 w.heap.size (.slice A3 (m + 1 : Nat) d3) (vals (fs.take (i + 1)) name) ∧ Below w.heap.size w W3) := ⟨by rw [hva, List.length_append, H.out.1]; rfl, by rw [hva]; exact ho, H.out.2.2.trans ((hal.mono H.out.2.2.size).trans (RowS.kp_below hrow hB hk))⟩
        rw [es] at HR
        clear hva hal hrow hB hr ho hk es hpn hp hg H hmn
        go_wp2_with (at_builtin; refine wpList_append_g rfl _ _ 50 50 rfl rfl rfl rfl HR.out ?_)
        go_roundw
        case rel => exact ⟨i + 1, m + 1, d3, A3, by omega, by go_num, rfl, HX⟩
        case measure => simp [intOf]; omega
      · have heq : ((S p.1).toList == (S name).toList) = false := by rw [beq_S, decide_eq_false hpn]
        rw [if_neg hpn, List.append_nil] at hva
        have hal : Below wr.heap.size wr (wr.alloc (.cells #[.string (S p.1), .string (S p.2)] 54)) := (Below.refl _ _).alloc (Nat.le_refl _) _
        have HX : Bx ((vals (fs.take (i + 1)) name).length = m ∧ RowS (wr.alloc (.cells #[.string (S p.1), .string (S p.2)] 54)) w.heap.size (.slice A2 m d) (vals (fs.take (i + 1)) name) ∧ Below w.heap.size w (wr.alloc (.cells #[.string (S p.1), .string (S p.2)] 54))) := ⟨by rw [hva]; exact H.out.1, by rw [hva]; exact rown_same H.out.2.1 (fun k hk => hal.block k (rown_lt H.out.2.1 hk).2), H.out.2.2.trans (hal.mono H.out.2.2.size)⟩
        clear hva hal hpn hp hg H
        go_wp2_with fail
        go_roundw
        case rel => exact ⟨i + 1, m, d, A2, by omega, by go_num, rfl, HX⟩
        case measure => simp [intOf]; omega
    · obtain rfl : i = n := by omega
      have e : fs.take i = fs := List.take_of_length_le (by rw [HN.out]; exact Nat.le_refl _)
      rw [e] at H
      have HE : Bx (ValsTo (vals fs name) w (.returned (.slice A2 m d)) wr) := ⟨A2, d, by rw [H.out.1], by rw [H.out.1]; exact H.out.2.1, H.out.2.2⟩
      clear e H
      go_wp2_with fail
      exact bodyPost_ret (v := .slice A2 m d) (by simp [results, Tryz.results20, go_sem]) rfl HE.out
end Go.Proofs.YtghdaengkgiekaaGreatDoor.hd
