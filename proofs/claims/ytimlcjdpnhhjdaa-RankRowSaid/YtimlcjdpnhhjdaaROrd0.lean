/-
  Given for the seat's laws: what Order keeps while it reckons the scores; an order out of a sorted row. No condition but those of the theorems.
-/
import Derived.Test.YtimlcjdpnhhjdaaRSortF
import Derived.Test.YtimlcjdpnhhjdaaRTell
import Derived.Test.YtimlcjdpnhhjdaaRGreat
import Derived.Deep.OwnRows
namespace Go.Proofs.Ytimlcjdpnhhjdaa.rk
open Go.RowKit mem sp
open Go.Sort (grow swp PermIn SortedIn)
set_option linter.unusedVariables false

def scf (S : Nat → Sc) (i j : Nat) : Value := if j < i * 2 then (if j % 2 = 0 then .bool (S (j / 2)).has else .int .u64 (S (j / 2)).top) else (if j % 2 = 0 then .bool false else .int .u64 0)
def orf (i j : Nat) : Value := if j < i then .int .i64 (j : Int) else .int .i64 0
structure OW (W : World) (hb sb g N : Nat) (k0 k1 : W64) (S : Nat → Sc) (i m : Nat) (wr : World) : Prop where
  hal : Lies wr hb 49 (two k0 k1)
  sc : wr.rowIs sb 47 (N * 2) (scf S i)
  ord : wr.rowIs g 3 N (orf m)
  below : Below W.heap.size W wr
  ne : W.heap.size ≤ hb ∧ hb < sb ∧ sb < g
section
variable {W wr w2 : World} {hb sb g N i m : Nat} {k0 k1 : W64} {S : Nat → Sc}
theorem OW.fresh (h : OW W hb sb g N k0 k1 S i m wr) (b : Below wr.heap.size wr w2) : OW W hb sb g N k0 k1 S i m w2 :=
  ⟨h.hal.below b h.hal.lt, h.sc.of_block (b.block sb h.sc.lt), h.ord.of_block (b.block g h.ord.lt), h.below.trans (b.mono h.below.size), h.ne⟩
theorem OW.drew (h : OW W hb sb g N k0 k1 S i m wr) : OW W hb sb g N k0 k1 S i m wr.drew := ⟨h.hal, h.sc.drew, h.ord.drew, h.below.drew, h.ne⟩
theorem OW.store (h : OW W hb sb g N k0 k1 S i m wr) (hi : i < N) {sh : Bool} {st : Int} (hS : S i = ⟨sh, st⟩) : OW W hb sb g N k0 k1 S (i + 1) m ((wr.setCell ⟨sb, i * 2, none⟩ (.bool sh)).setCell ⟨sb, i * 2 + 1, none⟩ (.int .u64 st)) := by
  obtain ⟨n1, n2, n3⟩ := h.ne
  refine ⟨(h.hal.far (p := ⟨sb, i * 2, none⟩) (by show hb ≠ sb; omega) _).far (p := ⟨sb, i * 2 + 1, none⟩) (by show hb ≠ sb; omega) _, ?_, (h.ord.setOther (a := ⟨sb, i * 2, none⟩) (by show g ≠ sb; omega) _).setOther (a := ⟨sb, i * 2 + 1, none⟩) (by show g ≠ sb; omega) _,
    (h.below.setCell (p := ⟨sb, i * 2, none⟩) (by show W.heap.size ≤ sb; omega) _).setCell (p := ⟨sb, i * 2 + 1, none⟩) (by show W.heap.size ≤ sb; omega) _, h.ne⟩
  refine ((h.sc.set (i * 2) (.bool sh)).set (i * 2 + 1) (.int .u64 st)).congr fun j hj => ?_
  by_cases e1 : j = i * 2 + 1
  · subst e1
    unfold scf
    rw [if_pos rfl, if_pos (show i * 2 + 1 < (i + 1) * 2 by omega), if_neg (by omega), show (i * 2 + 1) / 2 = i by omega, hS]
  · rw [if_neg e1]
    by_cases e2 : j = i * 2
    · subst e2
      unfold scf
      rw [if_pos rfl, if_pos (show i * 2 < (i + 1) * 2 by omega), if_pos (by omega), show (i * 2) / 2 = i by omega, hS]
    · rw [if_neg e2]
      unfold scf
      by_cases e3 : j < i * 2
      · rw [if_pos e3, if_pos (show j < (i + 1) * 2 by omega)]
      · rw [if_neg e3, if_neg (show ¬ j < (i + 1) * 2 by omega)]
theorem OW.put (h : OW W hb sb g N k0 k1 S i m wr) (hm : m < N) : OW W hb sb g N k0 k1 S i (m + 1) (wr.setCell ⟨g, m, none⟩ (.int .i64 (m : Int))) := by
  obtain ⟨n1, n2, n3⟩ := h.ne
  refine ⟨h.hal.far (p := ⟨g, m, none⟩) (by show hb ≠ g; omega) _, h.sc.setOther (a := ⟨g, m, none⟩) (by show sb ≠ g; omega) _, ?_, h.below.setCell (p := ⟨g, m, none⟩) (by show W.heap.size ≤ g; omega) _, h.ne⟩
  refine (h.ord.set m (.int .i64 (m : Int))).congr fun j hj => ?_
  unfold orf
  by_cases e : j = m
  · subst e
    rw [if_pos rfl, if_pos (by omega)]
  · rw [if_neg e]
    by_cases e2 : j < m
    · rw [if_pos e2, if_pos (by omega)]
    · rw [if_neg e2, if_neg (by omega)]
theorem range_get {N i : Nat} (h : i < N) : (Array.range N)[i]! = i := by
  rw [get_bang (by simpa using h)]
  simp
theorem OW.ss (h : OW W hb sb g N k0 k1 S N N wr) : SS wr g sb S N (Array.range N) wr := by
  obtain ⟨c, hcb, hcn, hc⟩ := h.ord
  refine ⟨?_, Keep.refl _ _ _, ⟨fun x hx => ?_⟩, fun i hi => ?_, by have := h.ne; omega⟩
  · have e : c = rowc (Array.range N) := by
      apply Array.ext_getElem?
      intro i
      by_cases hi : i < N
      · rw [hc i hi, rowc_get (by simpa using hi), range_get hi]
        unfold orf
        rw [if_pos hi]
      · rw [Array.getElem?_eq_none (by omega), Array.getElem?_eq_none (by rw [rowc_size]; simp; omega)]
    rw [← e]
    exact hcb
  · have h1 := h.sc.cell (i := x * 2) (by omega)
    have h2 := h.sc.cell (i := x * 2 + 1) (by omega)
    unfold scf at h1 h2
    rw [if_pos (by omega), if_pos (by omega), show x * 2 / 2 = x by omega] at h1
    rw [if_pos (by omega), if_neg (by omega), show (x * 2 + 1) / 2 = x by omega] at h2
    exact ⟨h1, h2⟩
  · have hi' : i < N := by simpa using hi
    rw [range_get hi']
    exact hi'
end
/-- an order out of a sorted row -/
theorem ord_of {S : Nat → Sc} {N : Nat} {f : Array Nat} (hp : PermIn 0 N (Array.range N) f) (hs : SortedIn (before S) 0 N f) : Ord S N f.toList := by
  have hsz : f.size = N := by rw [hp.1]; simp
  have h3 := hp.2.2
  have e1 : f.extract 0 N = f := by rw [← hsz, Array.extract_size]
  have e2 : (Array.range N).extract 0 N = Array.range N := by simp
  rw [e1, e2] at h3
  have h4 : f.toList.Perm (List.range N) := by simpa using h3
  refine ⟨h4, ?_⟩
  have hn : f.toList.Nodup := h4.nodup_iff.2 List.nodup_range
  rw [List.pairwise_iff_getElem]
  intro i j hi hj hij
  have hi' : i < f.size := by simpa using hi
  have hj' : j < f.size := by simpa using hj
  have h5 := hs i j (Nat.zero_le _) hij (by omega)
  have h6 := nodup_ne hn hi' hj' (by omega)
  have h7 : before S f[i]! f[j]! = true := (before_total (S := S) f[i]! f[j]! h6).resolve_right (by rw [h5]; simp)
  rw [get_bang hi', get_bang hj'] at h7
  simpa using h7
theorem nats_rowc (f : Array Nat) : (rowc f).toList = nats f.toList := by simp [rowc, nats]

def Sfn (key : Str) (l : List Str) (ws : List Int) (j : Nat) : Sc := scoK key (l.getD j []) (ws.getD j 0)
theorem mk_ints {N : Nat} (hN : N ≤ 1000) (w : World) : (Instr.makeSlice 30 (.int .i64 (N : Int)) (.int .i64 (N : Int))).run Try.prog w = .ok (.slice (some ⟨w.heap.size, 0, none⟩) N N) (w.alloc (.cells (madeCells #[.int .i64 0] N) 3)) :=
  run_make_row' (P := Try.prog) 30 3 (.int .i64 0) 8 Try.underlying30 (by kernel_rfl) rfl .i64 .i64 N (by omega) (by omega) w
theorem mk_scores {N : Nat} (hN : N ≤ 1000) (w : World) : (Instr.makeSlice 55 (.int .i64 (N : Int)) (.int .i64 (N : Int))).run Try.prog w = .ok (.slice (some ⟨w.heap.size, 0, none⟩) N N) (w.alloc (.cells (madeCells #[.bool false, .int .u64 0] (N * 2)) 47)) := by
  obtain ⟨i0, hinf, hz0, hz1, hz2⟩ := info_parts (show (Try.prog.info? 47).map (fun i => (i.zero, i.size, i.bytes)) = some (some (.agg #[.bool false, .int .u64 0]), 2, 16) by kernel_rfl)
  have h := run_make (P := Try.prog) w 55 47 i0 (.agg #[.bool false, .int .u64 0]) (by kernel_rfl) hinf hz0 .i64 .i64 (N : Int) (N : Int) (by omega) (by omega) (by rw [hz2]; omega) (by omega)
  rw [hz1, show (N : Int).toNat = N by omega] at h
  exact h
theorem made_scores (w : World) (S : Nat → Sc) (N : Nat) : (w.alloc (.cells (madeCells #[.bool false, .int .u64 0] (N * 2)) 47)).rowIs w.heap.size 47 (N * 2) (scf S 0) := by
  have h := World.rowIs_alloc w (madeCells #[Value.bool false, .int .u64 0] (N * 2)) 47 (scf S 0) (fun j hj => by
    rw [size_madeCells] at hj
    unfold madeCells scf
    rw [if_neg (by omega)]
    rcases (show j % 2 = 0 ∨ j % 2 = 1 by omega) with e | e <;> simp [hj, e])
  rw [size_madeCells] at h
  exact h
theorem made_ints (w : World) (N : Nat) : (w.alloc (.cells (madeCells #[.int .i64 0] N) 3)).rowIs w.heap.size 3 N (orf 0) :=
  (World.rowIs_made w (.int .i64 0) N 3).congr fun j hj => by unfold orf; rw [if_neg (by omega)]
end Go.Proofs.Ytimlcjdpnhhjdaa.rk
