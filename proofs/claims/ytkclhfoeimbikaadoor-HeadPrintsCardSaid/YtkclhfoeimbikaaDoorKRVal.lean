/-
  Given for the seat's laws: the document's Values. No condition but those of the theorem.
-/
import Derived.Test.YtkclhfoeimbikaaDoorKVal
namespace Go.Proofs.YtkclhfoeimbikaaDoor.hd
open Go.RowKit mem
set_option linter.unusedVariables false

structure RVl (w wr : World) (l : Str) (A : Option Addr) (n c : Nat) (v : List Str) (A2 : Option Addr) (m d : Nat) : Prop where
  len : v.length = m
  row : RowS wr w.heap.size (.slice A2 m d) v
  be : Below w.heap.size w wr
  box : Lies wr w.heap.size 25 #[.string (S l), .slice A n c]
set_option maxHeartbeats 4000000 in
theorem RValues_any {w : World} {ok : Nat → Prop} {A : Option Addr} {n c : Nat} {l : Str} {fs : Flds} (hf : FAt w ok A n c fs) (hok : ∀ g, ok g → g < w.heap.size) (hn : n ≤ 10000) (name : Str) : Calls Tryd.prog 14 #[.agg #[.string (S l), .slice A n c], .string (S name)] w (ValsTo (vals fs name) w) := by
  have HN := Bx.mk hf.len
  have HF := Bx.mk hf
  have HO := Bx.mk hok
  have H0 : Bx (RVl w (w.alloc (.cells #[.string (S l), .slice A n c] 25)) l A n c [] none 0 0) := ⟨⟨rfl, World.ownsRow_nil _ _ _ _, (Below.refl _ _).alloc (Nat.le_refl _) _, Lies.new w 25 #[.string (S l), .slice A n c]⟩⟩
  clear hf hok
  go_enter Tryd.func14, Tryd.ntmps14
  go_upto_region 1 with fail
  generalize w.alloc (.cells #[.string (S l), .slice A n c] 25) = W0 at *
  go_wp2_with fail
  go_loopw [5, 6] (fun s5 s6 wr => ∃ (i m d : Nat) (A2 : Option Addr), i ≤ n ∧ s6 = .int .i64 (i : Int) ∧ s5 = .slice A2 m d ∧ Bx (RVl w wr l A n c (vals (fs.take i) name) A2 m d)) (fun _ s6 _ => n - (intOf s6).toNat)
  case atStart => exact ⟨0, 0, 0, none, by omega, rfl, rfl, H0⟩
  case round =>
    clear H0
    obtain ⟨i, m, d, A2, hi, rfl, rfl, H⟩ := hrel
    have b1 := H.out.box.cell 1
    simp at b1
    by_cases hlt : i < n
    · obtain ⟨p, hp⟩ : ∃ p, fs[i]? = some p := ⟨_, List.getElem?_eq_getElem (by rw [HN.out]; exact hlt)⟩
      obtain ⟨g, off, rfl, hg, z0, z1⟩ := (HF.out.below H.out.be HO.out).at hp
      have i0 : (0 : Int) ≤ (i : Int) := by omega
      have i1 : (i : Int) < (n : Int) := by omega
      have hva := vals_add hp name
      by_cases hpn : p.1 = name
      · have heq : ((S p.1).toList == (S name).toList) = true := by rw [beq_S, decide_eq_true hpn]
        rw [if_pos hpn] at hva
        have hmn : m ≤ n := by
          have h1 := vals_len (fs.take i) name
          rw [H.out.len] at h1
          simp at h1
          omega
        obtain ⟨A3, d3, W3, hr, ho, hk⟩ := pushS H.out.row H.out.len H.out.be.size p.2 (by omega)
        have HR := Bx.mk hr
        have HX : Bx (RVl w W3 l (some ⟨g, off, none⟩) n c (vals (fs.take (i + 1)) name) A3 (m + 1) d3) := ⟨by
          rw [hva]
          exact ⟨by rw [List.length_append, H.out.len]; rfl, ho, H.out.be.trans (RowS.kp_below H.out.row H.out.be.size hk), H.out.box.of_same (hk.block _ H.out.box.lt (rown_ne H.out.row H.out.box (by decide)))⟩⟩
        clear hva hr ho hk hpn hp hg H hmn
        go_wp2_with (at_builtin; refine wpList_append_g rfl _ _ 36 36 rfl rfl rfl rfl HR.out ?_)
        go_roundw
        case rel => exact ⟨i + 1, m + 1, d3, A3, by omega, by go_num, rfl, HX⟩
        case measure => simp [intOf]; omega
      · have heq : ((S p.1).toList == (S name).toList) = false := by rw [beq_S, decide_eq_false hpn]
        rw [if_neg hpn, List.append_nil] at hva
        have HX : Bx (RVl w wr l (some ⟨g, off, none⟩) n c (vals (fs.take (i + 1)) name) A2 m d) := ⟨by rw [hva]; exact H.out⟩
        clear hva hpn hp hg H
        go_wp2_with fail
        go_roundw
        case rel => exact ⟨i + 1, m, d, A2, by omega, by go_num, rfl, HX⟩
        case measure => simp [intOf]; omega
    · obtain rfl : i = n := by omega
      have e : fs.take i = fs := List.take_of_length_le (by rw [HN.out]; exact Nat.le_refl _)
      rw [e] at H
      have HE : Bx (ValsTo (vals fs name) w (.returned (.slice A2 m d)) wr) := ⟨A2, d, by rw [H.out.len], by rw [H.out.len]; exact H.out.row, H.out.be⟩
      clear e H
      go_wp2_with fail
      exact bodyPost_ret (v := .slice A2 m d) (by simp [results, Tryd.results14, go_sem]) rfl HE.out
end Go.Proofs.YtkclhfoeimbikaaDoor.hd
