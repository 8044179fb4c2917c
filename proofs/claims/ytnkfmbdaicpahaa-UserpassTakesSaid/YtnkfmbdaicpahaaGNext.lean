/-
  Given for the seat's laws: the contracts of the function that reads a text, and of what it calls. No condition but those of the theorems.
-/
import Derived.Test.YtnkfmbdaicpahaaGMem
namespace Go.Proofs.Ytnkfmbdaicpahaa.gr
open Go.RowKit mem
set_option linter.unusedVariables false

structure Bx (p : Prop) : Prop where
  out : p

theorem failS_any (k : Int) (w : World) : Calls Try.prog 25 #[.int .i64 k] w fun e w' => e = .returned (.tuple #[.string ⟨#[]⟩, .int .i64 k]) ∧ w' = w := by
  go_enter Try.func25, Try.ntmps25
  go_wp2
  exact bodyPost_ret (v := .tuple #[.string ⟨#[]⟩, .int .i64 k]) (by simp [results, Try.results25, go_sem]) rfl ⟨rfl, rfl⟩
theorem failI_any (k : Int) (w : World) : Calls Try.prog 28 #[.int .i64 k] w fun e w' => e = .returned (.tuple #[.int .i64 0, .int .i64 k]) ∧ w' = w := by
  go_enter Try.func28, Try.ntmps28
  go_wp2
  exact bodyPost_ret (v := .tuple #[.int .i64 0, .int .i64 k]) (by simp [results, Try.results28, go_sem]) rfl ⟨rfl, rfl⟩
theorem failB_any (k : Int) (w : World) : Calls Try.prog 19 #[.int .i64 k] w fun e w' => e = .returned (.tuple #[.slice none 0 0, .int .i64 k]) ∧ w' = w := by
  go_enter Try.func19, Try.ntmps19
  go_wp2
  exact bodyPost_ret (v := .tuple #[.slice none 0 0, .int .i64 k]) (by simp [results, Try.results19, go_sem]) rfl ⟨rfl, rfl⟩
theorem failC_any (k : Int) (w : World) : Calls Try.prog 23 #[.int .i64 k] w (Gives (.tuple #[.agg #[.string ⟨#[]⟩, .string ⟨#[]⟩, .int .i64 0], .int .i64 k]) w) := by
  go_enter Try.func23, Try.ntmps23
  go_wp2
  refine bodyPost_ret (v := .tuple #[.agg #[.string ⟨#[]⟩, .string ⟨#[]⟩, .int .i64 0], .int .i64 k]) (by simp [results, Try.results23, go_sem]) rfl ⟨rfl, ?_⟩
  repeat (first | exact Below.refl _ _ | refine Below.alloc ?_ (by simp) _ | refine Below.setCell ?_ (by simp) _)
theorem failT_any (k : Int) (w : World) : Calls Try.prog 26 #[.int .i64 k] w (Gives (.tuple #[.agg #[.bool false, .int .i64 0], .int .i64 k]) w) := by
  go_enter Try.func26, Try.ntmps26
  go_wp2
  refine bodyPost_ret (v := .tuple #[.agg #[.bool false, .int .i64 0], .int .i64 k]) (by simp [results, Try.results26, go_sem]) rfl ⟨rfl, ?_⟩
  repeat (first | exact Below.refl _ _ | refine Below.alloc ?_ (by simp) _ | refine Below.setCell ?_ (by simp) _)

/-! ### the version -/
def VersTo (x : Nat × Nat) (w : World) (e : Ending) (w' : World) : Prop := e = .returned (.tuple #[.int .i64 (x.1 : Int), .int .i64 (x.2 : Int)]) ∧ w' = w
def vs : Str → Nat × Nat
  | [] => (0, 5)
  | v :: _ => if v = 1 then (1, 0) else (0, 6)
set_option maxHeartbeats 1000000 in
theorem vers_any {w : World} {ok : Nat → Prop} {A : Option Addr} {n c : Nat} {b : Str} (hs : Spell w ok A n c b) : Calls Try.prog 22 #[.slice A n c] w (VersTo (vs b) w) := by
  have hn := spell_len hs
  have HF := Bx.mk failI_any
  match b with
  | [] =>
    obtain rfl : n = 0 := hn.symm
    clear hs hn
    go_enter Try.func22, Try.ntmps22
    go_wp2_with fail
    refine (HF.out _ _).mono ?_
    rintro e w2 ⟨rfl, rfl⟩
    go_wp2_with fail
    exact bodyPost_ret (v := .tuple #[.int .i64 0, .int .i64 5]) (by simp [results, Try.results22, go_sem]) rfl ⟨rfl, rfl⟩
  | v :: r =>
    obtain ⟨g, off, rfl, _, hc⟩ := first_cell hs
    have h0 : 0 < n := by rw [← hn]; simp
    by_cases hv : v = 1
    · subst hv
      have hc' : w.cell? ⟨g, off, none⟩ = some (.int .u8 1) := hc
      clear hs hc hn
      go_enter Try.func22, Try.ntmps22
      go_wp2_with fail
      exact bodyPost_ret (v := .tuple #[.int .i64 1, .int .i64 0]) (by simp [results, Try.results22, go_sem]) rfl ⟨rfl, rfl⟩
    · have hz := byte_ne hv
      rw [show vs (v :: r) = (0, 6) by simp [vs, hv]]
      generalize (v.toNat : Int) = z at hc hz
      have hz' : (z != 1) = true := by simpa using hz
      clear hz hs hn hv
      go_enter Try.func22, Try.ntmps22
      go_wp2_with fail
      refine (HF.out _ _).mono ?_
      rintro e w2 ⟨rfl, rfl⟩
      go_wp2_with fail
      exact bodyPost_ret (v := .tuple #[.int .i64 0, .int .i64 6]) (by simp [results, Try.results22, go_sem]) rfl ⟨rfl, rfl⟩

/-! ### a text -/
structure Held (W : World) (ok : Nat → Prop) (A : Option Addr) (n c i bb bn : Nat) (b : Str) : Prop where
  sp : Spell W ok A n c b
  cb : W.cell? ⟨bb, 0, none⟩ = some (.slice A n c)
  cn : W.cell? ⟨bn, 0, none⟩ = some (.int .i64 (i : Int))
  fn : W.frozen? ⟨bn, 0, none⟩ = false
  hi : i ≤ n
  apart : bb ≠ bn
  far : ∀ g, ok g → g ≠ bn
def NextTo (x : Nx) (bn i : Nat) (W : World) (e : Ending) (W' : World) : Prop :=
  match x with
  | .more => e = .returned (.tuple #[.string ⟨#[]⟩, .int .i64 5]) ∧ W' = W
  | .form => e = .returned (.tuple #[.string ⟨#[]⟩, .int .i64 6]) ∧ W' = W
  | .got t _ => e = .returned (.tuple #[.string (S t), .int .i64 0]) ∧ W' = W.setCell ⟨bn, 0, none⟩ (.int .i64 ((i + 1 + t.length : Nat) : Int))
section
variable {W : World} {ok : Nat → Prop} {A : Option Addr} {n c i bb bn : Nat} {b : Str}
set_option maxHeartbeats 2000000 in
set_option maxRecDepth 100000 in
theorem next_none (H : Held W ok A n c i bb bn b) (hb : b.drop i = []) : Calls Try.prog 24 #[.pointer (some ⟨bb, 0, none⟩), .pointer (some ⟨bn, 0, none⟩)] W (NextTo .more bn i W) := by
  obtain ⟨hs, cb, cn, fn, hi, ha, hf⟩ := H
  have hn := spell_len hs
  have h0 : n - i = 0 := by have := congrArg List.length hb; simp at this; omega
  have q1 : ∀ W, (Instr.slice 22 (.slice A n c) (some (.int .i64 (i : Int))) none none).run Try.prog W = .ok (.slice (cutA A c i) (n - i) (c - i)) W := fun W => cut_l W A n c i hi
  rw [h0] at q1
  generalize cutA A c i = L at *
  generalize c - i = d at *
  have HF := Bx.mk failS_any
  clear hs hb hn hf h0 hi
  go_enter Try.func24, Try.ntmps24
  go_wp2_with fail
  refine (HF.out _ _).mono ?_
  rintro e w2 ⟨rfl, rfl⟩
  go_wp2_with fail
  exact bodyPost_ret (v := .tuple #[.string ⟨#[]⟩, .int .i64 5]) (by simp [results, Try.results24, go_sem]) rfl ⟨rfl, rfl⟩
theorem held_at (H : Held W ok A n c i bb bn b) {k : UInt8} {ms : Str} (hb : b.drop i = k :: ms) :
    ∃ g off, A = some ⟨g, off, none⟩ ∧ n - i = ms.length + 1 ∧ ms.length + 1 ≤ c - i ∧ W.cell? ⟨g, off + i, none⟩ = some (.int .u8 (k.toNat : Int)) ∧ Spell W ok (some ⟨g, off + i, none⟩) (n - i) (c - i) (k :: ms) ∧
      ∀ W, (Instr.slice 22 (.slice A n c) (some (.int .i64 (i : Int))) none none).run Try.prog W = .ok (.slice (some ⟨g, off + i, none⟩) (n - i) (c - i)) W := by
  obtain ⟨hs, cb, cn, fn, hi, ha, hf⟩ := H
  have hn := spell_len hs
  have hl := congrArg List.length hb
  simp at hl
  have hcap := hs.cap
  have hk : b[i]? = some k := by
    have h1 : (b.drop i)[0]? = some k := by rw [hb]; rfl
    simpa using h1
  obtain ⟨g, off, rfl, hg, hc⟩ := spell_cell hs hk
  have e : cutA (some ⟨g, off, none⟩) c i = some ⟨g, off + i, none⟩ := by
    unfold cutA
    rw [if_neg (by omega)]
    by_cases h0 : i = 0 <;> simp [Addr.add, h0]
  have hsp := hs.cut i (n - i) (by omega)
  rw [e, ints_drop, hb, ints_take, List.take_of_length_le (by simp; omega)] at hsp
  refine ⟨g, off, rfl, by omega, by omega, hc, hsp, fun W => ?_⟩
  rw [cut_l W _ n c i hi, e]
set_option maxHeartbeats 2000000 in
set_option maxRecDepth 100000 in
theorem next_zero (H : Held W ok A n c i bb bn b) {ms : Str} (hb : b.drop i = 0 :: ms) : Calls Try.prog 24 #[.pointer (some ⟨bb, 0, none⟩), .pointer (some ⟨bn, 0, none⟩)] W (NextTo .form bn i W) := by
  obtain ⟨g, off, rfl, hm, hcp, hc, hsp, q1⟩ := held_at H hb
  have cb := H.cb
  have cn := H.cn
  have hc' : W.cell? ⟨g, off + i, none⟩ = some (.int .u8 0) := hc
  have HF := Bx.mk failS_any
  have h0 : 0 < n - i := by omega
  generalize n - i = m at *
  generalize c - i = d at *
  generalize off + i = o at *
  clear H hsp hb hm hcp hc
  go_enter Try.func24, Try.ntmps24
  go_wp2_with fail
  refine (HF.out _ _).mono ?_
  rintro e w2 ⟨rfl, rfl⟩
  go_wp2_with fail
  exact bodyPost_ret (v := .tuple #[.string ⟨#[]⟩, .int .i64 6]) (by simp [results, Try.results24, go_sem]) rfl ⟨rfl, rfl⟩
set_option maxHeartbeats 2000000 in
set_option maxRecDepth 100000 in
theorem next_short (H : Held W ok A n c i bb bn b) {k : UInt8} {ms : Str} (hb : b.drop i = k :: ms) (hk : k ≠ 0) (hl : ms.length < k.toNat) : Calls Try.prog 24 #[.pointer (some ⟨bb, 0, none⟩), .pointer (some ⟨bn, 0, none⟩)] W (NextTo .more bn i W) := by
  obtain ⟨g, off, rfl, hm, hcp, hc, hsp, q1⟩ := held_at H hb
  have cb := H.cb
  have cn := H.cn
  have HF := Bx.mk failS_any
  obtain ⟨k1, k2⟩ := toNat_pos hk
  have h0 : 0 < n - i := by omega
  have hlt : ((n - i : Nat) : Int) < 1 + (k.toNat : Int) := by omega
  generalize n - i = m at *
  generalize c - i = d at *
  generalize off + i = o at *
  generalize k.toNat = j at *
  have hj : ((j : Int) == 0) = false := by simp; omega
  have hj0 : (0 : Int) ≤ (j : Int) := by omega
  have hj1 : (j : Int) < 256 := by omega
  clear H hsp hb hm hcp hl
  go_enter Try.func24, Try.ntmps24
  go_wp2_with fail
  refine (HF.out _ _).mono ?_
  rintro e w2 ⟨rfl, rfl⟩
  go_wp2_with fail
  exact bodyPost_ret (v := .tuple #[.string ⟨#[]⟩, .int .i64 5]) (by simp [results, Try.results24, go_sem]) rfl ⟨rfl, rfl⟩
set_option maxHeartbeats 4000000 in
set_option maxRecDepth 100000 in
theorem next_whole (H : Held W ok A n c i bb bn b) {k : UInt8} {ms : Str} (hb : b.drop i = k :: ms) (hk : k ≠ 0) (hl : k.toNat ≤ ms.length) (hn : n ≤ 100000) : Calls Try.prog 24 #[.pointer (some ⟨bb, 0, none⟩), .pointer (some ⟨bn, 0, none⟩)] W (NextTo (.got (ms.take k.toNat) (ms.drop k.toNat)) bn i W) := by
  obtain ⟨g, off, rfl, hm, hcp, hc, hsp, q1⟩ := held_at H hb
  have cb := H.cb
  have cn := H.cn
  have fn := H.fn
  have hap := H.apart
  have hi := H.hi
  have hgn : g ≠ bn := by
    obtain ⟨g', off', e, ho, _⟩ := spell_cell hsp (i := 0) (x := k) rfl
    cases e
    exact H.far _ ho
  obtain ⟨k1, k2⟩ := toNat_pos hk
  have htl : (ms.take k.toNat).length = k.toNat := by simp; omega
  have hcut := hsp.cut 1 k.toNat (by omega)
  have e : cutA (some ⟨g, off + i, none⟩) (c - i) 1 = some ⟨g, off + i + 1, none⟩ := by
    unfold cutA
    rw [if_neg (by omega)]
    simp [Addr.add]
  rw [e, ints_drop, ints_take] at hcut
  have hcut : Spell W ok (some ⟨g, off + i + 1, none⟩) k.toNat (c - i - 1) (ms.take k.toNat) := hcut
  have hstr : ∀ v, (convert 22 9 (.slice (some ⟨g, off + i + 1, none⟩) k.toNat (c - i - 1))).run Try.prog (W.setCell ⟨bn, 0, none⟩ v) = .ok (.string (S (ms.take k.toNat))) (W.setCell ⟨bn, 0, none⟩ v) :=
    fun v => spell_str (hcut.keep fun g hg => Below.heap_setCell _ _ _ _ (H.far g hg))
  show Calls _ _ _ _ (fun e W' => e = .returned (.tuple #[.string (S (ms.take k.toNat)), .int .i64 0]) ∧ W' = W.setCell ⟨bn, 0, none⟩ (.int .i64 ((i + 1 + (ms.take k.toNat).length : Nat) : Int)))
  rw [htl]
  generalize ms.take k.toNat = t at *
  have hnlt : ¬ ((n - i : Nat) : Int) < 1 + (k.toNat : Int) := by omega
  have h0 : 0 < n - i := by omega
  have hjm : 1 + k.toNat ≤ n - i := by omega
  have hmd : n - i ≤ c - i := by omega
  generalize n - i = m at *
  generalize c - i = d at *
  generalize off + i = o at *
  generalize k.toNat = j at *
  have hj : ((j : Int) == 0) = false := by simp; omega
  have hj0 : (0 : Int) ≤ (j : Int) := by omega
  have hj1 : (j : Int) < 256 := by omega
  have hend : ((i + 1 + j : Nat) : Int) = (i : Int) + (1 + (j : Int)) := by omega
  rw [hend]
  have HE := Bx.mk hend
  have hi2 : i ≤ 100000 := by omega
  clear H hsp hb hm hcp hl hcut htl hend hi
  go_enter Try.func24, Try.ntmps24
  go_wp2_with fail
  exact bodyPost_ret (v := .tuple #[.string (S t), .int .i64 0]) (by simp [results, Try.results24, go_sem]) rfl ⟨rfl, rfl⟩
theorem next_any (H : Held W ok A n c i bb bn b) (hn : n ≤ 100000) : Calls Try.prog 24 #[.pointer (some ⟨bb, 0, none⟩), .pointer (some ⟨bn, 0, none⟩)] W (NextTo (nx (b.drop i)) bn i W) := by
  rcases way (b.drop i) with ⟨h, e⟩ | ⟨r, h, e⟩ | ⟨k, ms, h, hk, hl, e⟩ | ⟨k, ms, h, hk, hl, e⟩
  · rw [e]; exact next_none H h
  · rw [e]; exact next_zero H h
  · rw [e]; exact next_short H h hk hl
  · rw [e]; exact next_whole H h hk hl hn
end
end Go.Proofs.Ytnkfmbdaicpahaa.gr
