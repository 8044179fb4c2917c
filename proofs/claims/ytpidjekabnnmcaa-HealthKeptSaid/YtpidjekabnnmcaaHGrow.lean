/-
  Given for the seat's laws: one record more at the end of a table's row; a new record. No condition but those of the theorems.
-/
import Derived.Test.YtpidjekabnnmcaaHTick
namespace Go.Proofs.Ytpidjekabnnmcaa.hp
open Go.RowKit mem find pb
set_option linter.unusedVariables false

theorem infoPrec : (Try.prog.info? 73).map (fun i => (i.zero, i.size, i.bytes)) = some (some (.pointer none), 1, 8) := by kernel_rfl
theorem PRow.push {w : World} {A : Option Addr} {c : Nat} {bs : List Nat} (h : PRow w A c bs) (b : Nat) (hn : bs.length ≤ 1000) :
    ∃ A' c' W', (Builtin.append_ #[32, 32] 32 #[.slice A bs.length c, .slice (some ⟨w.heap.size, 0, none⟩) 1 1]).run Try.prog (w.alloc (.cells #[bp b] 73)) = .ok (.slice A' (bs.length + 1) c') W' ∧
      PRow W' A' c' (bs ++ [b]) ∧ (w.alloc (.cells #[bp b] 73)).grownBy W' (rowOf A) ∧ (∀ g, rowOf A' = some g → rowOf A = some g ∨ w.heap.size ≤ g) := by
  obtain ⟨i0, hinf, hz0, hz1, hz2⟩ := info_parts infoPrec
  have hb : Below w.heap.size w (w.alloc (.cells #[bp b] 73)) := (Below.refl _ w).alloc (Nat.le_refl _) _
  have h1 : PRow (w.alloc (.cells #[bp b] 73)) A c bs := h.same fun g e => hb.block g (prow_lt h e)
  have hl := Lies.new w 73 #[bp b]
  obtain ⟨g, cap, w', hr, ho, hg, hat, _⟩ := run_append_lies (P := Try.prog) (w.alloc (.cells #[bp b] 73)) 32 32 0 73 i0 (.pointer none) 1 8 Try.underlying32 hinf hz0 hz1 hz2 rfl (by decide) _ _ _ h1 ⟨w.heap.size, 0, none⟩ 1 1 [bp b] rfl
    (fun j u hu => by
      rw [Addr.add_lit, Nat.zero_add, hl.cell]
      match j, hu with
      | 0, hu => simpa using hu) (by simp [Value.oneCell']) (by decide) (by unfold maxLen; omega) (by omega) (by omega) _ rfl
  refine ⟨some ⟨g, 0, none⟩, cap, w', hr, ?_, ?_, fun g' e => ?_⟩
  · have e1 : (bs ++ [b]).length = bs.length + 1 := by simp
    have e2 : (bs ++ [b]).map bp = bs.map bp ++ [bp b] := by simp
    unfold PRow
    rw [e1, e2]
    exact ho
  · have e3 : (Value.slice A bs.length c).ownBlock = rowOf A := by rw [← find.rowOf_eq]
    rw [← e3]; exact hg
  · have e3 : (Value.slice A bs.length c).ownBlock = rowOf A := by rw [← find.rowOf_eq]
    simp [rowOf, Value.ownBlock] at e
    subst e
    rcases hat with h2 | h2
    · left; rw [← e3]; exact h2
    · right
      rw [h2, World.size_alloc]
      omega

section
variable {w : World} {S : Nat → Prop} {r c q : Nat} {D : HD} {A : Option Addr} {bs : List Nat}
theorem Hx.grow (h : Hx w S r D A c q bs) {b : Nat} {x : RD} (hl : Lies w b 79 (rcs x)) (hb : b ∉ bs) (hs : D.R.length ≤ 1000) :
    ∃ A' c' W', (Builtin.append_ #[32, 32] 32 #[.slice A D.R.length c, .slice (some ⟨w.heap.size, 0, none⟩) 1 1]).run Try.prog (w.alloc (.cells #[bp b] 73)) = .ok (.slice A' (D.R.length + 1) c') W' ∧
      (∀ i, W'.frozen? ⟨r, i, none⟩ = false) ∧ W'.cell? ⟨r, 4, none⟩ = some (.slice A D.R.length c) ∧ Hx (W'.setCell ⟨r, 4, none⟩ (.slice A' (D.R.length + 1) c')) (fun g => S g ∨ g = b ∨ w.heap.size ≤ g) r { D with R := D.R ++ [x] } A' c' q (bs ++ [b]) ∧
      Keep w.heap.size S w (W'.setCell ⟨r, 4, none⟩ (.slice A' (D.R.length + 1) c')) := by
  have hlen := h.len
  obtain ⟨A', c', W', hr, ho, hg, hA⟩ := h.row.push b (by omega)
  rw [hlen] at hr
  refine ⟨A', c', W', hr, ?_⟩
  have hal : Below w.heap.size w (w.alloc (.cells #[bp b] 73)) := (Below.refl _ w).alloc (Nat.le_refl _) _
  -- what the append leaves alone
  have far1 : ∀ (g : Nat) (t : TypeId) (cs : Array Value), Lies w g t cs → t ≠ 73 → Lies W' g t cs := fun g t cs hl2 ht => (hl2.below hal hl2.lt).grown hg (fun e => prow_apart h.row e.symm hl2 ht rfl)
  have hd1 := far1 r _ _ h.hd (by decide)
  refine ⟨fun i => hd1.frozen i, hd1.cell 4, ?_, ?_⟩
  · have far : ∀ (g : Nat) (t : TypeId) (cs : Array Value), Lies w g t cs → t ≠ 73 → t ≠ 35 → Lies (W'.setCell ⟨r, 4, none⟩ (.slice A' (D.R.length + 1) c')) g t cs := fun g t cs hl2 h1 h2 =>
      (far1 g t cs hl2 h1).far (p := ⟨r, 4, none⟩) (hl2.apart h.hd h2) _
    have e1 : (D.R ++ [x]).length = D.R.length + 1 := by simp
    refine ⟨?_, ?_, fun g e => ?_, ⟨by simp [hlen], ?_, fun i g y hg2 hy => ?_, fun g hg2 => ?_⟩, ?_, .inl h.own⟩
    · show Lies _ r 35 (hcs r _ A' (D.R ++ [x]).length c' q)
      rw [e1]
      exact hd1.set 4 _
    · exact ho.same fun g e => Below.heap_setCell _ _ _ _ (by show g ≠ r; exact prow_apart ho e hd1 (by decide))
    · rcases hA g e with h2 | h2
      · exact .inl (h.rowS g h2)
      · exact .inr (.inr h2)
    · rw [List.nodup_append]
      refine ⟨h.recs.nod, by simp, fun a ha b' hb' e => ?_⟩
      simp at hb'
      subst hb' e
      exact hb ha
    · by_cases hi : i < bs.length
      · rw [List.getElem?_append_left hi] at hg2
        rw [List.getElem?_append_left (by omega)] at hy
        exact far g _ _ (h.recs.at_ i g y hg2 hy) (by decide) (by decide)
      · rw [List.getElem?_append_right (by omega)] at hg2 hy
        rw [hlen] at hg2
        have := (List.getElem?_eq_some_iff.1 hg2).1
        simp at this
        rw [this] at hg2 hy
        simp at hg2 hy
        subst hg2 hy
        exact far b _ _ hl (by decide) (by decide)
    · rcases List.mem_append.1 hg2 with h2 | h2
      · exact .inl (h.recs.own g h2)
      · simp at h2; exact .inr (.inl h2)
    · obtain ⟨A1, c1, p1, p2, p3⟩ := h.pn.ex
      refine ⟨⟨A1, c1, far q _ _ p1 (by decide) (by decide), find.RowsAt.of_same p2 (fun g e => ?_), fun g e => .inl (p3 g e)⟩, .inl h.pn.own, h.pn.asc, h.pn.len, h.pn.lo, h.pn.hi⟩
      obtain ⟨_, cur, hc⟩ := pl.own_cell p2 e
      exact (far g 103 cur hc (by decide) (by decide)).trans hc.symm
  · exact ((Keep.of_below hal S).grown hg hal.size (fun k e => .inr (h.rowS k e))).setCell (p := ⟨r, 4, none⟩) (.inr h.own) _
/-- the head's last key turned -/
theorem Hx.setLast (h : Hx w S r D A c q bs) (t : Int) : Hx (w.setCell ⟨r, 5, none⟩ (.int .i64 t)) S r { D with last := t } A c q bs ∧ Keep w.heap.size S w (w.setCell ⟨r, 5, none⟩ (.int .i64 t)) := by
  have far : ∀ g, g ≠ r → (w.setCell ⟨r, 5, none⟩ (.int .i64 t)).heap[g]? = w.heap[g]? := fun g hg => Below.heap_setCell _ _ _ _ (by exact hg)
  refine ⟨⟨h.hd.set 5 _, h.row.same fun g e => far g (prow_apart h.row e h.hd (by decide)), h.rowS, h.recs.same fun b hb => ?_, ?_, h.own⟩, (Keep.refl _ S w).setCell (.inr h.own) _⟩
  · obtain ⟨x, hl⟩ := h.recs.lies hb
    exact far b (hl.apart h.hd (by decide))
  · obtain ⟨A1, c1, p1, p2, p3⟩ := h.pn.ex
    exact ⟨⟨A1, c1, p1.of_same (far q (p1.apart h.hd (by decide))), find.RowsAt.of_same p2 (fun g e => far g (by rw [find.rowOf_eq] at e; exact pl.own_apart p2 e h.hd (by decide))), p3⟩, h.pn.own, h.pn.asc, h.pn.len, h.pn.lo, h.pn.hi⟩
end
end Go.Proofs.Ytpidjekabnnmcaa.hp
