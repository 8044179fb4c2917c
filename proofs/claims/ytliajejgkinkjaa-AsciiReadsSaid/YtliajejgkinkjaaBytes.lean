/-
  Given for the seat's laws: the contracts of the reader's Bytes. No condition but those of the theorems.
-/
import Derived.Test.YtliajejgkinkjaaReads
namespace Go.Proofs.Ytliajejgkinkjaa.reader
open Go.RowKit mem
set_option linter.unusedVariables false

section
variable {w : World} {B r : Nat} {A : Option Addr} {n c : Nat} {xs : List Int} {k : Nat}

theorem enters_bytes (args : Array Value) (W : World) : (callFunc 29 args).run Try.prog W = .ok (.enter 29 args) W := enters Try.func29 (by kernel_rfl) (by kernel_rfl) args W

set_option maxHeartbeats 400000 in
theorem bytes_fn {w : World} {ok : Nat → Prop} {A : Option Addr} {l c b : Nat} {bs : List Int} {v : Value} (h : Src w ok A l c bs) (hl : l ≤ 140737488355328) (hb : Lies w b 25 #[v]) :
    Calls Try.prog 29 #[.slice A l c, .pointer (some ⟨b, 0, none⟩)] w fun e w' => e = .returned (.tuple #[]) ∧
      ∃ A' c' W, W.ownsRow w.heap.size 5 1 (.slice A' l c') l (B8 bs) ∧ Below w.heap.size w W ∧ w' = W.setCell ⟨b, 0, none⟩ (.slice A' l c') := by
  have HC := Lib.hid (clone_src h hl)
  have HB := Lib.hid hb
  clear h hb
  go_enter Try.func29, Try.ntmps29
  go_wp2_with fail
  refine HC.out.mono ?_
  rintro e w1 ⟨A', c', rfl, ho, hbel⟩
  have hb1 := HB.out.below hbel HB.out.lt
  have c0 : w1.cell? ⟨b, 0, none⟩ = some v := hb1.cell 0
  have f0 : w1.frozen? ⟨b, 0, none⟩ = false := hb1.frozen 0
  have HO := Lib.hid ho
  have HL := Lib.hid hbel
  clear ho hbel hb1
  go_wp2
  go_end0
  exact ⟨rfl, A', c', w1, HO.out, HL.out, rfl⟩

set_option maxHeartbeats 400000 in
theorem bytes_neg (h : Has w B r A n c xs k) (j : Int) (hj : j < 0) : Calls Try.prog 20 #[.pointer (some ⟨r, 0, none⟩), .int .i64 j] w (Reads (.tuple #[.slice none 0 0, .int .i64 2]) w B r A n c xs k) := by
  have hb : Below w.heap.size w (w.alloc (.cells #[.slice none 0 0] 25)) := (Below.refl _ w).alloc (Nat.le_refl _) _
  have hn := next_neg (w.alloc (.cells #[.slice none 0 0] 25)) (h.below hb (Nat.le_refl _)) j hj (.func (.func 29) #[] #[.pointer (some ⟨w.heap.size, 0, none⟩)])
  have HN := Lib.hid hn
  have HH := Lib.hid h
  have HB := Lib.hid hb
  clear hn h hb
  go_enter Try.func20, Try.ntmps20
  go_wp2_with fail
  refine HN.out.mono ?_
  rintro e w2 ⟨rfl, rfl⟩
  go_wp2
  go_ret2
  exact ⟨rfl, Left.stay HH.out HB.out⟩

set_option maxHeartbeats 400000 in
theorem bytes_more (h : Has w B r A n c xs k) (j : Int) (hj : 0 ≤ j) (hk : (n : Int) < (k : Int) + j) : Calls Try.prog 20 #[.pointer (some ⟨r, 0, none⟩), .int .i64 j] w (Reads (.tuple #[.slice none 0 0, .int .i64 5]) w B r A n c xs k) := by
  have hb : Below w.heap.size w (w.alloc (.cells #[.slice none 0 0] 25)) := (Below.refl _ w).alloc (Nat.le_refl _) _
  have hn := next_more (w.alloc (.cells #[.slice none 0 0] 25)) (h.below hb (Nat.le_refl _)) j hj (by omega) (.func (.func 29) #[] #[.pointer (some ⟨w.heap.size, 0, none⟩)])
  have hbox := Lies.new w 25 #[.slice none 0 0]
  have HN := Lib.hid hn
  have HH := Lib.hid h
  have HB := Lib.hid hb
  clear hn h hk hb
  go_enter Try.func20, Try.ntmps20
  go_wp2_with fail
  refine HN.out.mono ?_
  rintro e w2 ⟨rfl, hst⟩
  have hc : w2.cell? ⟨w.heap.size, 0, none⟩ = some (.slice none 0 0) := (hst.cell _).trans (hbox.cell 0)
  have HST := Lib.hid hst
  clear hst hbox
  go_wp2
  go_ret2
  exact ⟨rfl, Left.stay HH.out (HB.out.trans ((Still.below HST.out _).mono (Nat.le_refl _)))⟩

/-- what Bytes returns, where there are as many -/
def Bytes (w : World) (B r : Nat) (A : Option Addr) (n c : Nat) (xs : List Int) (k j : Nat) (e : Ending) (w' : World) : Prop :=
  ∃ A' c', e = .returned (.tuple #[.slice A' j c', .int .i64 0]) ∧ w'.ownsRow w.heap.size 5 1 (.slice A' j c') j (B8 ((xs.drop k).take j)) ∧ Left w w' B r A n c xs (k + j)

set_option maxHeartbeats 400000 in
theorem bytes_ok (h : Has w B r A n c xs k) (j : Nat) (hk : k + j ≤ n) : Calls Try.prog 20 #[.pointer (some ⟨r, 0, none⟩), .int .i64 (j : Int)] w (Bytes w B r A n c xs k j) := by
  have hb : Below w.heap.size w (w.alloc (.cells #[.slice none 0 0] 25)) := (Below.refl _ w).alloc (Nat.le_refl _) _
  have hbox := Lies.new w 25 #[.slice none 0 0]
  have h1 := h.below hb (Nat.le_refl _)
  have hr := h.head.lt
  have hsm := h.small
  have hn := next_ok (w.alloc (.cells #[.slice none 0 0] 25)) h1 j hk 29 #[.pointer (some ⟨w.heap.size, 0, none⟩)]
    (fun w' => Below w.heap.size w w' ∧ ∃ A' c', w'.cell? ⟨w.heap.size, 0, none⟩ = some (.slice A' j c') ∧ w'.ownsRow (w.heap.size + 1) 5 1 (.slice A' j c') j (B8 ((xs.drop k).take j))) enters_bytes (fun W hW => by
      have hs := (h1.src.still hW).cut k j hk
      have hl : Lies W w.heap.size 25 #[.slice none 0 0] := hbox.of_same (by rw [hW.heap])
      refine (bytes_fn hs (by omega) hl).mono ?_
      rintro e' w' ⟨rfl, A', c', W2, ho, hW2, rfl⟩
      have hsz : W.heap.size = w.heap.size + 1 := by rw [hW.heap]; simp
      rw [hsz] at ho
      have hbel : Below W.heap.size W W2 := hW2
      have hl2 : Lies W2 w.heap.size 25 #[.slice none 0 0] := hl.below hbel hl.lt
      refine ⟨rfl, (Below.heap_setCell _ _ _ _ (by simp; omega)).trans ((hbel.block r (by omega)).trans (by rw [hW.heap])), (((hb.trans (hW.below _)).trans (hbel.mono (by omega))).setCell (Nat.le_refl _) _), A', c', (hl2.set 0 _).cell 0, ?_⟩
      exact own_same ho (fun g hg => Below.heap_setCell _ _ _ _ (fun e => by have := (own_lt ho hg).1; simp at e; omega)))
  have HN := Lib.hid hn
  have HH := Lib.hid h
  clear hn h h1 hb hbox
  go_enter Try.func20, Try.ntmps20
  go_wp2_with fail
  refine HN.out.mono ?_
  rintro e w2 ⟨rfl, w1, ⟨hbel, A', c', hc1, ho1⟩, hr1, rfl⟩
  have HB := Lib.hid hbel
  have HO := Lib.hid ho1
  have hc : (w1.setCell ⟨r, 1, none⟩ (.int .i64 ((k + j : Nat) : Int))).cell? ⟨w.heap.size, 0, none⟩ = some (.slice A' j c') := (World.cell?_of_block (Below.heap_setCell _ _ _ _ (by simp; omega))).trans hc1
  clear hbel hc1 hr1 ho1
  generalize hW2 : w1.setCell ⟨r, 1, none⟩ (.int .i64 ((k + j : Nat) : Int)) = w2 at *
  have HW2 := Lib.hid hW2
  clear hW2
  go_wp2
  go_ret2
  refine ⟨A', c', rfl, ?_, ?_⟩
  · rw [← HW2.out]
    have ho := own_same (w' := w1.setCell ⟨r, 1, none⟩ (.int .i64 ((k + j : Nat) : Int))) HO.out (fun g hg => Below.heap_setCell _ _ _ _ (fun e => by have := (own_lt HO.out hg).1; simp at e; omega))
    refine ⟨ho.1, ?_⟩
    rcases ho.2 with h0 | ⟨g, cap, cur, hv, hb, rest⟩
    · exact .inl h0
    · exact .inr ⟨g, cap, cur, hv, by omega, rest⟩
  · rw [← HW2.out]
    exact Left.moved HH.out HB.out _ hk
end

end Go.Proofs.Ytliajejgkinkjaa.reader
