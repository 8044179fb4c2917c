/-
  Given for the seat's laws: the contract of the document's own Print; TakeAnswer; what the laws ask. No condition but those of the theorems.
-/
import Derived.Test.YtnkfmbdaicpahaaGPrint
namespace Go.Proofs.Ytnkfmbdaicpahaa.gr
open Go.RowKit mem
set_option linter.unusedVariables false

theorem strCells_L (s : ByteArray) : Lib.strCells s = B8 (ints (L s)) := by simp [Lib.strCells, B8, ints, L]
/-- a text more -/
theorem Made.text {w wr : World} {v : Value} {l : Str} (h : Made w wr v l) (s : ByteArray) (hl : l.length + s.size ≤ 100000) :
    ∃ A2 c2 w2, (Builtin.append_ #[22, 9] 22 #[v, .string s]).run Try.prog wr = .ok (.slice A2 (l.length + s.size) c2) w2 ∧ Made w w2 (.slice A2 (l.length + s.size) c2) (l ++ L s) := by
  obtain ⟨i0, hinf, hz0, hz1, hz2⟩ := info_parts (show (Try.prog.info? 5).map (fun i => (i.zero, i.size, i.bytes)) = some (some (.int .u8 0), 1, 1) by kernel_rfl)
  obtain ⟨v', w', happ, ho, hg, _⟩ := Lib.run_append_own_string (P := Try.prog) (w := wr) w.heap.size 22 9 22 5 i0 Try.underlying22 Try.underlying9 hinf hz0 hz1 hz2 v l.length (B8 (ints l)) h.own s
    (by unfold maxLen; omega) (by omega) h.below.size
  obtain ⟨A2, c2, rfl⟩ := own_form ho
  refine ⟨A2, c2, w', happ, ?_, h.below.grown hg h.below.size (own_ge h.own)⟩
  have e : (l ++ L s).length = l.length + s.size := by rw [List.length_append, L_len]
  rw [e, ints_app]
  have e2 : B8 (ints l ++ ints (L s)) = B8 (ints l) ++ B8 (ints (L s)) := by simp [B8]
  rw [e2, ← strCells_L]
  exact ho
set_option maxHeartbeats 2000000 in
set_option maxRecDepth 100000 in
theorem rprint_bad {s t : ByteArray} (h : fit s = false ∨ fit t = false) (w : World) : Calls Try.prog 11 #[.string s, .string t] w (PrintAs [] 0 2 w) := by
  unfold fit at h
  by_cases h1 : s.size < 1
  · have h1' : (s.size : Int) < 1 := by omega
    clear h
    go_enter Try.func11, Try.ntmps11
    go_wp2
    exact bodyPost_ret (v := .tuple #[.slice none 0 0, .int .i64 2]) (by simp [results, Try.results11, go_sem]) rfl (print_no _)
  · have h1' : ¬ (s.size : Int) < 1 := by omega
    by_cases h2 : s.size ≤ 255
    · have h2' : ¬ (255 : Int) < (s.size : Int) := by omega
      by_cases h3 : t.size < 1
      · have h3' : (t.size : Int) < 1 := by omega
        clear h
        go_enter Try.func11, Try.ntmps11
        go_wp2
        exact bodyPost_ret (v := .tuple #[.slice none 0 0, .int .i64 2]) (by simp [results, Try.results11, go_sem]) rfl (print_no _)
      · have h3' : ¬ (t.size : Int) < 1 := by omega
        have h4' : (255 : Int) < (t.size : Int) := by
          have e1 : (decide (1 ≤ s.size) && decide (s.size ≤ 255)) = true := by simp; omega
          rw [e1] at h
          simp at h
          omega
        clear h
        go_enter Try.func11, Try.ntmps11
        go_wp2
        exact bodyPost_ret (v := .tuple #[.slice none 0 0, .int .i64 2]) (by simp [results, Try.results11, go_sem]) rfl (print_no _)
    · have h2' : (255 : Int) < (s.size : Int) := by omega
      clear h
      go_enter Try.func11, Try.ntmps11
      go_wp2
      exact bodyPost_ret (v := .tuple #[.slice none 0 0, .int .i64 2]) (by simp [results, Try.results11, go_sem]) rfl (print_no _)
set_option maxHeartbeats 4000000 in
set_option maxRecDepth 100000 in
theorem rprint_good {s t : ByteArray} (h1 : fit s = true) (h2 : fit t = true) (w : World) : Calls Try.prog 11 #[.string s, .string t] w (PrintAs (pr (L s) (L t)) (3 + s.size + t.size) 0 w) := by
  have o1 := fit_t.1 h1
  have o2 := fit_t.1 h2
  unfold ok1 at o1 o2
  rw [L_len] at o1 o2
  have e1 := wrap_small o1.2
  have e2 := wrap_small o2.2
  have g1 : ¬ (s.size : Int) < 1 := by omega
  have g2 : ¬ (255 : Int) < (s.size : Int) := by omega
  have g3 : ¬ (t.size : Int) < 1 := by omega
  have g4 : ¬ (255 : Int) < (t.size : Int) := by omega
  have M0 := ans_is w 1 (ln (L s))
  rw [ln_cell h1] at M0
  have M0 : Made w (w.alloc (.cells #[.int .u8 1, .int .u8 (s.size : Int)] 5)) (.slice (some ⟨w.heap.size, 0, none⟩) (2 : Nat) 2) [1, ln (L s)] := M0
  obtain ⟨A1, c1, w1, ha1, M1⟩ := M0.text s (by simp; omega)
  have hl1 : ([1, ln (L s)] ++ L s).length = 2 + s.size := by simp [L_len]; omega
  have ha1 : (Builtin.append_ #[22, 9] 22 #[.slice (some ⟨w.heap.size, 0, none⟩) 2 2, .string s]).run Try.prog (w.alloc (.cells #[.int .u8 1, .int .u8 (s.size : Int)] 5)) = .ok (.slice A1 (2 + s.size) c1) w1 := ha1
  have M1 : Made w w1 (.slice A1 (2 + s.size) c1) ([1, ln (L s)] ++ L s) := M1
  obtain ⟨A2, c2, w2, ha2, M2⟩ := M1.push (by rw [hl1]; omega) (ln (L t))
  rw [ln_cell h2, hl1] at ha2
  rw [hl1] at M2
  obtain ⟨A3, c3, w3, ha3, M3⟩ := M2.text t (by rw [List.length_append, hl1]; simp; omega)
  have hl2 : ([1, ln (L s)] ++ L s ++ [ln (L t)]).length = 2 + s.size + 1 := by rw [List.length_append, hl1]; rfl
  rw [hl2] at ha3 M3
  have hpr : [1, ln (L s)] ++ L s ++ [ln (L t)] ++ L t = pr (L s) (L t) := by simp [pr]
  rw [hpr] at M3
  have hk : 2 + s.size + 1 + t.size = 3 + s.size + t.size := by omega
  rw [hk] at ha3 M3
  have H1 := Bx.mk ha1; have H2 := Bx.mk ha2; have H3 := Bx.mk ha3; have HM := Bx.mk M3
  clear M0 M1 M2 M3 ha1 ha2 ha3 hl1 hl2 hpr hk o1 o2
  go_enter Try.func11, Try.ntmps11
  go_wp2_with (at_builtin; (first | (refine Lib.wpList_append_run _ rfl _ _ _ _ rfl _ _ rfl rfl _ _ H1.out ?_; clear H1) | (refine Lib.wpList_append_run _ rfl _ _ _ _ rfl _ _ rfl rfl _ _ H2.out ?_; clear H2) | (refine Lib.wpList_append_run _ rfl _ _ _ _ rfl _ _ rfl rfl _ _ H3.out ?_; clear H3)))
  exact bodyPost_ret (v := .tuple #[.slice A3 (3 + s.size + t.size) c3, .int .i64 0]) (by simp [results, Try.results11, go_sem]) rfl ⟨A3, c3, rfl, HM.out⟩

/-- what Print gives -/
def pk (s t : ByteArray) : Str × Nat × Nat := if fit s && fit t then (pr (L s) (L t), 3 + s.size + t.size, 0) else ([], 0, 2)
theorem print_any (s t : ByteArray) (w : World) : Calls Try.prog 12 #[.string s, .string t] w (PrintAs (pk s t).1 (pk s t).2.1 (pk s t).2.2 w) := by
  unfold pk
  by_cases h1 : fit s = true
  · by_cases h2 : fit t = true
    · rw [h1, h2]; exact print_good h1 h2 w
    · have h2 : fit t = false := by simpa using h2
      rw [h1, h2]; exact print_bad (.inr h2) w
  · have h1 : fit s = false := by simpa using h1
    rw [h1]; exact print_bad (.inl h1) w
theorem rprint_any (s t : ByteArray) (w : World) : Calls Try.prog 11 #[.string s, .string t] w (PrintAs (pk s t).1 (pk s t).2.1 (pk s t).2.2 w) := by
  unfold pk
  by_cases h1 : fit s = true
  · by_cases h2 : fit t = true
    · rw [h1, h2]; exact rprint_good h1 h2 w
    · have h2 : fit t = false := by simpa using h2
      rw [h1, h2]; exact rprint_bad (.inr h2) w
  · have h1 : fit s = false := by simpa using h1
    rw [h1]; exact rprint_bad (.inl h1) w
theorem rtake_any {w : World} {ok : Nat → Prop} {A : Option Addr} {n c : Nat} {b : Str} (hs : Spell w ok A n c b) (hok : ∀ g, ok g → g < w.heap.size) (hn : n ≤ 100000) : Calls Try.prog 8 #[.slice A n c] w (TakeTo (tk b) w) := by
  match b with
  | [] => exact rtake_bad hs (q := 5) rfl (by decide)
  | v :: r =>
    by_cases hv : v = 1
    · subst hv; exact rtake_one hs hok hn
    · rw [show tk (v :: r) = ([], [], 0, 6) by simp [tk, hv]]
      exact rtake_bad hs (q := 6) (by simp [vs, hv]) (by decide)
set_option maxHeartbeats 2000000 in
set_option maxRecDepth 100000 in
theorem rans_any {w : World} {ok : Nat → Prop} {A : Option Addr} {n c : Nat} {b : Str} (hs : Spell w ok A n c b) (hok : ∀ g, ok g → g < w.heap.size) : Calls Try.prog 10 #[.slice A n c] w (AnsTo (ch b) w) := by
  have hn := spell_len hs
  match b with
  | [] =>
    obtain rfl : n = 0 := hn.symm
    clear hs hn hok
    go_enter Try.func10, Try.ntmps10
    go_wp2
    exact bodyPost_ret (v := .tuple #[.bool false, .int .i64 0, .int .i64 5]) (by simp [results, Try.results10, go_sem]) rfl gives_refl
  | v :: r =>
    by_cases hv : v = 1
    · subst hv
      match r with
      | [] =>
        obtain rfl : n = 1 := hn.symm
        obtain ⟨g, off, rfl, _, hc⟩ := first_cell hs
        have hc' : w.cell? ⟨g, off, none⟩ = some (.int .u8 1) := hc
        clear hs hc hn hok
        go_enter Try.func10, Try.ntmps10
        go_wp2
        exact bodyPost_ret (v := .tuple #[.bool false, .int .i64 0, .int .i64 5]) (by simp [results, Try.results10, go_sem]) rfl gives_refl
      | m :: r =>
        obtain ⟨g, off, rfl, _, hc, hd⟩ := two_cells hs
        have h1 : 1 < n := by rw [← hn]; simp
        have h0 : 0 < n := by omega
        have h2 : ¬ n < 2 := by omega
        have hc' : w.cell? ⟨g, off, none⟩ = some (.int .u8 1) := hc
        have hm : (m == 0) = ((m.toNat : Int) == 0) := by
          by_cases h : m = 0
          · subst h; rfl
          · have := byte_ne0 h
            rw [beq_eq_false_iff_ne.2 h, beq_eq_false_iff_ne.2 this]
        show Calls _ _ _ _ (AnsTo (m == 0, 2, 0) w)
        rw [hm]
        generalize (m.toNat : Int) = j at *
        clear hs hc hn hm hok
        go_enter Try.func10, Try.ntmps10
        go_wp2
        exact bodyPost_ret (v := .tuple #[.bool (j == 0), .int .i64 2, .int .i64 0]) (by simp [results, Try.results10, go_sem]) rfl gives_refl
    · rw [show ch (v :: r) = (false, 0, 6) by simp [ch, hv]]
      obtain ⟨g, off, rfl, _, hc⟩ := first_cell hs
      have h0 : 0 < n := by rw [← hn]; simp
      have hz := byte_ne hv
      generalize (v.toNat : Int) = z at hc hz
      have hz' : (z != 1) = true := by simpa using hz
      clear hz hs hn hv hok
      go_enter Try.func10, Try.ntmps10
      go_wp2
      exact bodyPost_ret (v := .tuple #[.bool false, .int .i64 0, .int .i64 6]) (by simp [results, Try.results10, go_sem]) rfl gives_refl
end Go.Proofs.Ytnkfmbdaicpahaa.gr
