/-
  Given for the seat's laws: the contract of connect.replyFields. No condition but those of the theorems.
-/
import Derived.Test.YtghdaengkgiekaaGreatDoorYCRpl
namespace Go.Proofs.YtghdaengkgiekaaGreatDoor.cn
open Go.RowKit mem hd
set_option linter.unusedVariables false

/-- two fields more -/
theorem pushF2 {W : World} {B : Nat} {A : Option Addr} {n c : Nat} {fs : Flds} (h : RowF W B (.slice A n c) fs) (hn : fs.length = n) (hB : B ≤ W.heap.size) (p q : Str × Str) (hl : n ≤ 1000) :
    ∃ A' c' W', (Builtin.append_ #[45, 45] 45 #[.slice A n c, .slice (some ⟨W.heap.size, 0, none⟩) 2 2]).run Tryz.prog (W.alloc (.cells #[.string (S p.1), .string (S p.2), .string (S q.1), .string (S q.2)] 54)) = .ok (.slice A' (n + 2 : Nat) c') W' ∧
      RowF W' B (.slice A' (n + 2 : Nat) c') (fs ++ [p, q]) ∧ Kp (fun k => (Value.slice A n c).ownBlock = some k) W W' := by
  subst hn
  obtain ⟨i0, hinf, hz0, hz1, hz2⟩ := info_parts twoInfo
  have h3 := rown_same (w' := W.alloc (.cells #[.string (S p.1), .string (S p.2), .string (S q.1), .string (S q.2)] 54)) h (fun g hg => Below.heap_alloc _ _ _ (rown_lt h hg).2)
  obtain ⟨v', W', hr, ho, hg, _⟩ := run_append_own (P := Tryz.prog) (W.alloc (.cells #[.string (S p.1), .string (S p.2), .string (S q.1), .string (S q.2)] 54)) B 45 45 54 i0 _ 2 32 Tryz.underlying45 hinf hz0 hz1 hz2 rfl (by decide) _ _ _ h3 ⟨W.heap.size, 0, none⟩ 2 2 [.string (S p.1), .string (S p.2), .string (S q.1), .string (S q.2)] rfl (fun j u hu => by
    rw [Addr.add_lit, Nat.zero_add, lit_cell]
    simpa using hu) (by simp [Value.oneCell']) (by unfold maxLen; omega) (by omega) (by simp; omega)
  obtain ⟨A', c', rfl⟩ := rown_form ho
  have e : flat2 (fs ++ [p, q]) = flat2 fs ++ [.string (S p.1), .string (S p.2), .string (S q.1), .string (S q.2)] := by rw [flat2_app]; rfl
  have el : (fs ++ [p, q]).length = fs.length + 2 := by simp
  refine ⟨A', c', W', hr, by unfold RowF; rw [el, e]; exact ho, ⟨hg.os, hg.tape, hg.output, by have := hg.size; simp at this; omega, fun k hk hs => ?_⟩⟩
  rw [hg.block k (by simp; omega) (fun e => hs e.symm)]
  exact Below.heap_alloc _ _ _ hk
def rbase : Flds := [([67, 111, 110, 116, 101, 110, 116, 45, 76, 101, 110, 103, 116, 104], [48]), ([67, 111, 110, 110, 101, 99, 116, 105, 111, 110], [99, 108, 111, 115, 101])]
/-- the fields of the answer of that code -/
def rflds (c : Nat) : Flds := if c = 0 then [] else (if c = 3 then [([65, 108, 108, 111, 119], [67, 79, 78, 78, 69, 67, 84])] else if c = 2 then [([80, 114, 111, 120, 121, 45, 65, 117, 116, 104, 101, 110, 116, 105, 99, 97, 116, 101], [66, 97, 115, 105, 99, 32, 114, 101, 97, 108, 109, 61, 34, 112, 111, 115, 116, 105, 108, 105, 111, 110, 34])] else []) ++ rbase
def FldsTo (fs : Flds) (w : World) (e : Ending) (w' : World) : Prop := ∃ A n c, e = .returned (.slice A n c) ∧ fs.length = n ∧ RowF w' w.heap.size (.slice A n c) fs ∧ Below w.heap.size w w'
/-- the last append -/
theorem last2 {w W : World} {A : Option Addr} {n c : Nat} {fs : Flds} (h : RowF W w.heap.size (.slice A n c) fs) (hn : fs.length = n) (hb : Below w.heap.size w W) (hl : n ≤ 1000) :
    ∃ A' c' W', (Builtin.append_ #[45, 45] 45 #[.slice A n c, .slice (some ⟨W.heap.size, 0, none⟩) 2 2]).run Tryz.prog (W.alloc (.cells #[.string ⟨#[67, 111, 110, 116, 101, 110, 116, 45, 76, 101, 110, 103, 116, 104]⟩, .string ⟨#[48]⟩, .string ⟨#[67, 111, 110, 110, 101, 99, 116, 105, 111, 110]⟩, .string ⟨#[99, 108, 111, 115, 101]⟩] 54)) = .ok (.slice A' (n + 2 : Nat) c') W' ∧ FldsTo (fs ++ rbase) w (.returned (.slice A' (n + 2 : Nat) c')) W' := by
  obtain ⟨A', c', W', h1, h2, h3⟩ := pushF2 h hn hb.size ([67, 111, 110, 116, 101, 110, 116, 45, 76, 101, 110, 103, 116, 104], [48]) ([67, 111, 110, 110, 101, 99, 116, 105, 111, 110], [99, 108, 111, 115, 101]) hl
  exact ⟨A', c', W', h1, A', _, c', rfl, by rw [List.length_append, hn]; rfl, h2, hb.trans (h3.below hb.size fun k h1 h2 => by have := (rown_lt h h2).1; omega)⟩
theorem first1 (w : World) (p : Str × Str) : ∃ A' c' W', (Builtin.append_ #[45, 45] 45 #[.slice none 0 0, .slice (some ⟨w.heap.size, 0, none⟩) 1 1]).run Tryz.prog (w.alloc (.cells #[.string (S p.1), .string (S p.2)] 54)) = .ok (.slice A' (1 : Nat) c') W' ∧ RowF W' w.heap.size (.slice A' (1 : Nat) c') [p] ∧ Below w.heap.size w W' := by
  obtain ⟨A', c', W', h1, h2, h3⟩ := pushF (rowF_nil w w.heap.size) rfl (Nat.le_refl _) p (by omega)
  exact ⟨A', c', W', h1, h2, h3.below (Nat.le_refl _) fun k h1 h2 => by cases h2⟩
set_option maxRecDepth 100000 in
set_option maxHeartbeats 4000000 in
theorem replyFields_any (w : World) (c : Nat) (hc : c < 256) : Calls Tryz.prog 34 #[.int .u8 (c : Int)] w (FldsTo (rflds c) w) := by
  have q0 : (0 : Int) ≤ (c : Int) := by omega
  by_cases h0 : c = 0
  · subst h0
    have HF : Bx (FldsTo (rflds 0) w (.returned (.slice none 0 0)) w) := ⟨none, 0, 0, rfl, rfl, rowF_nil _ _, Below.refl _ _⟩
    go_enter Tryz.func34, Tryz.ntmps34
    go_wp2_with fail
    exact bodyPost_ret (v := .slice none 0 0) (by simp [results, Tryz.results34, go_sem]) rfl HF.out
  by_cases h3 : c = 3
  · subst h3
    obtain ⟨A1, c1, W1, r1, o1, b1⟩ := first1 w ([65, 108, 108, 111, 119], [67, 79, 78, 78, 69, 67, 84])
    obtain ⟨A2, c2, W2, r2, o2⟩ := last2 o1 rfl b1 (by omega)
    have HA1 : Bx ((Builtin.append_ #[45, 45] 45 #[.slice none 0 0, .slice (some ⟨w.heap.size, 0, none⟩) 1 1]).run Tryz.prog (w.alloc (.cells #[.string ⟨#[65, 108, 108, 111, 119]⟩, .string ⟨#[67, 79, 78, 78, 69, 67, 84]⟩] 54)) = .ok (.slice A1 (1 : Nat) c1) W1) := ⟨r1⟩
    have HA2 := Bx.mk r2
    have HF : Bx (FldsTo (rflds 3) w (.returned (.slice A2 3 c2)) W2) := ⟨o2⟩
    clear r1 r2 o1 o2 b1 h0
    go_enter Tryz.func34, Tryz.ntmps34
    go_wp2_with (at_builtin; first | (refine wpList_append_g rfl _ _ 45 45 rfl rfl rfl rfl HA1.out ?_; clear HA1) | (refine wpList_append_g rfl _ _ 45 45 rfl rfl rfl rfl HA2.out ?_; clear HA2))
    exact bodyPost_ret (v := .slice A2 3 c2) (by simp [results, Tryz.results34, go_sem]) rfl HF.out
  by_cases h2 : c = 2
  · subst h2
    obtain ⟨A1, c1, W1, r1, o1, b1⟩ := first1 w ([80, 114, 111, 120, 121, 45, 65, 117, 116, 104, 101, 110, 116, 105, 99, 97, 116, 101], [66, 97, 115, 105, 99, 32, 114, 101, 97, 108, 109, 61, 34, 112, 111, 115, 116, 105, 108, 105, 111, 110, 34])
    obtain ⟨A2, c2, W2, r2, o2⟩ := last2 o1 rfl b1 (by omega)
    have HA1 : Bx ((Builtin.append_ #[45, 45] 45 #[.slice none 0 0, .slice (some ⟨w.heap.size, 0, none⟩) 1 1]).run Tryz.prog (w.alloc (.cells #[.string ⟨#[80, 114, 111, 120, 121, 45, 65, 117, 116, 104, 101, 110, 116, 105, 99, 97, 116, 101]⟩, .string ⟨#[66, 97, 115, 105, 99, 32, 114, 101, 97, 108, 109, 61, 34, 112, 111, 115, 116, 105, 108, 105, 111, 110, 34]⟩] 54)) = .ok (.slice A1 (1 : Nat) c1) W1) := ⟨r1⟩
    have HA2 := Bx.mk r2
    have HF : Bx (FldsTo (rflds 2) w (.returned (.slice A2 3 c2)) W2) := ⟨o2⟩
    clear r1 r2 o1 o2 b1 h0 h3
    go_enter Tryz.func34, Tryz.ntmps34
    go_wp2_with (at_builtin; first | (refine wpList_append_g rfl _ _ 45 45 rfl rfl rfl rfl HA1.out ?_; clear HA1) | (refine wpList_append_g rfl _ _ 45 45 rfl rfl rfl rfl HA2.out ?_; clear HA2))
    exact bodyPost_ret (v := .slice A2 3 c2) (by simp [results, Tryz.results34, go_sem]) rfl HF.out
  · obtain ⟨A2, c2, W2, r2, o2⟩ := last2 (rowF_nil w w.heap.size) rfl (Below.refl _ _) (by omega)
    have HA2 := Bx.mk r2
    have e : rflds c = [] ++ rbase := by unfold rflds; rw [if_neg h0, if_neg h3, if_neg h2]
    have HF : Bx (FldsTo (rflds c) w (.returned (.slice A2 2 c2)) W2) := ⟨by rw [e]; exact o2⟩
    have i0 : ((c : Int) == 0) = false := by simp; omega
    have i3 : ((c : Int) == 3) = false := by simp; omega
    have i2 : ((c : Int) == 2) = false := by simp; omega
    clear r2 o2 e h0 h3 h2 hc
    generalize rflds c = fs at *
    generalize (c : Int) = z at *
    go_enter Tryz.func34, Tryz.ntmps34
    go_wp2_with (at_builtin; refine wpList_append_g rfl _ _ 45 45 rfl rfl rfl rfl HA2.out ?_; clear HA2)
    exact bodyPost_ret (v := .slice A2 2 c2) (by simp [results, Tryz.results34, go_sem]) rfl HF.out
end Go.Proofs.YtghdaengkgiekaaGreatDoor.cn
