/-
  Given for the seat's laws: texts joined, rows of texts of the call's own; the contract of Values. No condition but those of the theorems.
-/
import Derived.Test.YtkclhfoeimbikaaDoorKAwk
namespace Go.Proofs.YtkclhfoeimbikaaDoor.hd
open Go.RowKit mem
set_option linter.unusedVariables false

theorem cat (a b : Str) (ha : a.length ≤ 1000000) (hb : b.length ≤ 1000000) (W : World) : (Op.stringOp .add (S a) (S b)).run Tryd.prog W = .ok (.string (S (a ++ b))) W := by
  rw [run_string_add W _ _ (by rw [S_size]; omega) (by rw [S_size]; omega), S_append]
def strv (l : List Str) : List Value := l.map fun s => .string (S s)
theorem strv_len (l : List Str) : (strv l).length = l.length := by simp [strv]
abbrev RowS (W : World) (B : Nat) (v : Value) (l : List Str) : Prop := W.ownsRow B 9 1 v l.length (strv l)
theorem strInfo : (Tryd.prog.info? 9).map (fun i => (i.zero, i.size, i.bytes)) = some (some (.string ⟨#[]⟩), 1, 16) := by kernel_rfl
/-- a text more -/
theorem pushS {W : World} {B : Nat} {A : Option Addr} {n c : Nat} {l : List Str} (h : RowS W B (.slice A n c) l) (hn : l.length = n) (hB : B ≤ W.heap.size) (s : Str) (hl : n ≤ 100000) :
    ∃ A' c' W', (Builtin.append_ #[36, 36] 36 #[.slice A n c, .slice (some ⟨W.heap.size, 0, none⟩) 1 1]).run Tryd.prog (W.alloc (.cells #[.string (S s)] 9)) = .ok (.slice A' (n + 1 : Nat) c') W' ∧
      RowS W' B (.slice A' (n + 1 : Nat) c') (l ++ [s]) ∧ Kp (fun k => (Value.slice A n c).ownBlock = some k) W W' := by
  subst hn
  obtain ⟨i0, hinf, hz0, hz1, hz2⟩ := info_parts strInfo
  have h3 := rown_same (w' := W.alloc (.cells #[.string (S s)] 9)) h (fun g hg => Below.heap_alloc _ _ _ (rown_lt h hg).2)
  obtain ⟨v', W', hr, ho, hg, _⟩ := run_append_own (P := Tryd.prog) (W.alloc (.cells #[.string (S s)] 9)) B 36 36 9 i0 _ 1 16 Tryd.underlying36 hinf hz0 hz1 hz2 rfl (by decide) _ _ _ h3 ⟨W.heap.size, 0, none⟩ 1 1 [.string (S s)] rfl (fun j u hu => by
    rw [Addr.add_lit, Nat.zero_add, lit_cell]
    simpa using hu) (by simp [Value.oneCell']) (by unfold maxLen; omega) (by omega) (by simp; omega)
  obtain ⟨A', c', rfl⟩ := rown_form ho
  have e : strv (l ++ [s]) = strv l ++ [.string (S s)] := by simp [strv]
  have el : (l ++ [s]).length = l.length + 1 := by simp
  refine ⟨A', c', W', hr, by unfold RowS; rw [el, e]; exact ho, ⟨hg.os, hg.tape, hg.output, by have := hg.size; simp at this; omega, fun k hk hs => ?_⟩⟩
  rw [hg.block k (by simp; omega) (fun e => hs e.symm)]
  exact Below.heap_alloc _ _ _ hk
theorem RowS.kp_below {W W' : World} {B : Nat} {v : Value} {l : List Str} (h : RowS W B v l) (hB : B ≤ W.heap.size) (hk : Kp (fun k => v.ownBlock = some k) W W') : Below B W W' := hk.below hB fun k h1 h2 => by have := (rown_lt h h2).1; omega
/-- the values of the fields of that name -/
def vals (fs : Flds) (name : Str) : List Str := (fs.filter fun p => decide (p.1 = name)).map (·.2)
theorem vals_add {fs : Flds} {i : Nat} {p : Str × Str} (h : fs[i]? = some p) (name : Str) : vals (fs.take (i + 1)) name = vals (fs.take i) name ++ (if p.1 = name then [p.2] else []) := by
  unfold vals
  rw [List.take_add_one, h, List.filter_append, List.map_append]
  by_cases e : p.1 = name <;> simp [e]
theorem vals_len (fs : Flds) (name : Str) : (vals fs name).length ≤ fs.length := by
  unfold vals
  rw [List.length_map]
  exact List.length_filter_le _ _
def ValsTo (vs : List Str) (w : World) (e : Ending) (w' : World) : Prop := ∃ A c, e = .returned (.slice A vs.length c) ∧ RowS w' w.heap.size (.slice A vs.length c) vs ∧ Below w.heap.size w w'
set_option maxHeartbeats 4000000 in
set_option maxRecDepth 100000 in
theorem Values_any {w : World} {ok : Nat → Prop} {A : Option Addr} {n c : Nat} {l : Str} {fs : Flds} (hf : FAt w ok A n c fs) (hok : ∀ g, ok g → g < w.heap.size) (hn : n ≤ 10000) (name : Str) : Calls Tryd.prog 16 #[.agg #[.string (S l), .slice A n c], .string (S name)] w (ValsTo (vals fs name) w) := by
  have HN := Bx.mk hf.len
  have b0 : Below w.heap.size w (w.alloc (.cells #[.string (S l), .slice A n c] 25)) := (Below.refl _ _).alloc (Nat.le_refl _) _
  have HF := Bx.mk hf
  have HO := Bx.mk hok
  have H0 : Bx (RowS (w.alloc (.cells #[.string (S l), .slice A n c] 25)) w.heap.size (.slice none 0 0) []) := ⟨World.ownsRow_nil _ _ _ _⟩
  have HB0 := Bx.mk b0
  clear hf hok b0
  go_enter Tryd.func16, Tryd.ntmps16
  go_wp2_with fail
  go_loopw [5, 11] (fun s5 s11 wr => ∃ (i m d : Nat) (A2 : Option Addr), i ≤ n ∧ s11 = .int .i64 (i : Int) ∧ s5 = .slice A2 m d ∧ Bx ((vals (fs.take i) name).length = m ∧ RowS wr w.heap.size (.slice A2 m d) (vals (fs.take i) name) ∧ Below w.heap.size w wr)) (fun s5 s11 _ => n - (intOf s11).toNat)
  case atStart => exact ⟨0, 0, 0, none, by omega, rfl, rfl, ⟨rfl, H0.out, HB0.out⟩⟩
  case round =>
    clear H0 HB0
    obtain ⟨i, m, d, A2, hi, rfl, rfl, H⟩ := hrel
    by_cases hlt : i < n
    · obtain ⟨p, hp⟩ : ∃ p, fs[i]? = some p := ⟨_, List.getElem?_eq_getElem (by rw [HN.out]; exact hlt)⟩
      obtain ⟨g, off, rfl, hg, z0, z1⟩ := (HF.out.below H.out.2.2 HO.out).at hp
      have i0 : (0 : Int) ≤ (i : Int) := by omega
      have i1 : (i : Int) < (n : Int) := by omega
      have hva := vals_add hp name
      by_cases hpn : p.1 = name
      · have heq : ((S p.1).toList == (S name).toList) = true := by rw [beq_S, decide_eq_true hpn]
        rw [if_pos hpn] at hva
        have hmn : m ≤ n := by
          have h1 := vals_len (fs.take i) name
          rw [H.out.1] at h1
          simp at h1
          omega
        have hal : Below wr.heap.size wr (wr.alloc (.cells #[.string (S p.1), .string (S p.2)] 49)) := (Below.refl _ _).alloc (Nat.le_refl _) _
        have hrow := rown_same (w' := wr.alloc (.cells #[.string (S p.1), .string (S p.2)] 49)) H.out.2.1 (fun k hk => hal.block k (rown_lt H.out.2.1 hk).2)
        have hB : w.heap.size ≤ (wr.alloc (.cells #[.string (S p.1), .string (S p.2)] 49)).heap.size := Nat.le_trans H.out.2.2.size hal.size
        obtain ⟨A3, d3, W3, hr, ho, hk⟩ := pushS hrow H.out.1 hB p.2 (by omega)
        have HR : Bx ((Builtin.append_ #[36, 36] 36 #[.slice A2 m d, .slice (some ⟨(wr.alloc (.cells #[.string (S p.1), .string (S p.2)] 49)).heap.size, 0, none⟩) 1 1]).run Tryd.prog ((wr.alloc (.cells #[.string (S p.1), .string (S p.2)] 49)).alloc (.cells #[.string (S p.2)] 9)) = .ok (.slice A3 (m + 1 : Nat) d3) W3) := ⟨hr⟩
        have es : (wr.alloc (.cells #[.string (S p.1), .string (S p.2)] 49)).heap.size = wr.heap.size + 1 := by simp
        have HX : Bx ((vals (fs.take (i + 1)) name).length = m + 1 ∧ RowS W3 w.heap.size (.slice A3 (m + 1 : Nat) d3) (vals (fs.take (i + 1)) name) ∧ Below w.heap.size w W3) := ⟨by rw [hva, List.length_append, H.out.1]; rfl, by rw [hva]; exact ho, H.out.2.2.trans ((hal.mono H.out.2.2.size).trans (RowS.kp_below hrow hB hk))⟩
        rw [es] at HR
        clear hva hal hrow hB hr ho hk es hpn hp hg H hmn
        go_wp2_with (at_builtin; refine wpList_append_g rfl _ _ 36 36 rfl rfl rfl rfl HR.out ?_)
        go_roundw
        case rel => exact ⟨i + 1, m + 1, d3, A3, by omega, by go_num, rfl, HX⟩
        case measure => simp [intOf]; omega
      · have heq : ((S p.1).toList == (S name).toList) = false := by rw [beq_S, decide_eq_false hpn]
        rw [if_neg hpn, List.append_nil] at hva
        have hal : Below wr.heap.size wr (wr.alloc (.cells #[.string (S p.1), .string (S p.2)] 49)) := (Below.refl _ _).alloc (Nat.le_refl _) _
        have HX : Bx ((vals (fs.take (i + 1)) name).length = m ∧ RowS (wr.alloc (.cells #[.string (S p.1), .string (S p.2)] 49)) w.heap.size (.slice A2 m d) (vals (fs.take (i + 1)) name) ∧ Below w.heap.size w (wr.alloc (.cells #[.string (S p.1), .string (S p.2)] 49))) := ⟨by rw [hva]; exact H.out.1, by rw [hva]; exact rown_same H.out.2.1 (fun k hk => hal.block k (rown_lt H.out.2.1 hk).2), H.out.2.2.trans (hal.mono H.out.2.2.size)⟩
        clear hva hal hpn hp hg H
        go_wp2_with fail
        go_roundw
        case rel => exact ⟨i + 1, m, d, A2, by omega, by go_num, rfl, HX⟩
        case measure => simp [intOf]; omega
    · obtain rfl : i = n := by omega
      have e : fs.take i = fs := List.take_of_length_le (by rw [HN.out]; exact Nat.le_refl _)
      rw [e] at H
      have HE : Bx (ValsTo (vals fs name) w (.returned (.slice A2 m d)) wr) := ⟨A2, d, by rw [H.out.1], by rw [H.out.1]; exact H.out.2.1, H.out.2.2⟩
      clear e H
      go_wp2_with fail
      exact bodyPost_ret (v := .slice A2 m d) (by simp [results, Tryd.results16, go_sem]) rfl HE.out
end Go.Proofs.YtkclhfoeimbikaaDoor.hd
