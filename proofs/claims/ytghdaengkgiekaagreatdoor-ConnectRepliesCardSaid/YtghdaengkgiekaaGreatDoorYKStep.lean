/-
  Given for the seat's laws: the taker as it lies; the contracts of its states. No condition but those of the theorems.
-/
import Derived.Test.YtghdaengkgiekaaGreatDoorYKMem
import Derived.Laws.EntriesVeiled
import Derived.RegionTactic
namespace Go.Proofs.YtghdaengkgiekaaGreatDoor.hd
open Go.RowKit mem
set_option linter.unusedVariables false

def fnv : St → Value
  | .first => .func (.func 40) #[] #[]
  | .within => .func (.func 70) #[] #[]
  | .half => .func (.func 92) #[] #[]
  | .begin => .func (.func 112) #[] #[]
  | .named => .func (.func 135) #[] #[]
  | .valued => .func (.func 151) #[] #[]
  | .last => .func (.func 134) #[] #[]
  | .over => .nilFunc
theorem fnv_fn {s : St} (h : s ≠ .over) : ∃ k, fnv s = .func (.func k) #[] #[] := by
  cases s <;> first | exact ⟨_, rfl⟩ | exact absurd rfl h
/-- the taker at g, of which all lies from B on -/
structure TkAt (B : Nat) (W : World) (g : Nat) (t : T) (A : Option Addr) (n c : Nat) (A2 : Option Addr) (m c2 : Nat) : Prop where
  lies : Lies W g 79 #[fnv t.st, .string (S t.line), .slice A n c, .string (S t.name), .slice A2 m c2]
  fs : RowF W B (.slice A n c) t.fs
  part : RowB W B (.slice A2 m c2) t.part
  hn : t.fs.length = n
  hm : t.part.length = m
  gb : B ≤ g
def Tk (B : Nat) (W : World) (g : Nat) (t : T) : Prop := ∃ A n c A2 m c2, TkAt B W g t A n c A2 m c2
def Went (B : Nat) (W : World) (g : Nat) (x : Except Nat T) (e : Ending) (W' : World) : Prop :=
  match x with
  | .error k => e = .returned (.int .i64 (k : Int)) ∧ Below B W W'
  | .ok t' => e = .returned (.int .i64 0) ∧ Tk B W' g t' ∧ Below B W W'
section
variable {B : Nat} {W : World} {g : Nat} {t : T} {A : Option Addr} {n c : Nat} {A2 : Option Addr} {m c2 : Nat}
theorem TkAt.size (H : TkAt B W g t A n c A2 m c2) : B ≤ W.heap.size := by have := H.lies.lt; have := H.gb; omega
/-- a cell of the taker is set: the rows stay -/
theorem TkAt.far (H : TkAt B W g t A n c A2 m c2) (i : Nat) (u : Value) : RowF (W.setCell ⟨g, i, none⟩ u) B (.slice A n c) t.fs ∧ RowB (W.setCell ⟨g, i, none⟩ u) B (.slice A2 m c2) t.part ∧ Below B W (W.setCell ⟨g, i, none⟩ u) := by
  refine ⟨rown_same H.fs fun k hk => Below.heap_setCell _ _ _ _ ?_, rown_same H.part fun k hk => Below.heap_setCell _ _ _ _ ?_, (Below.refl _ _).setCell H.gb _⟩
  · rintro rfl; exact rown_ne H.fs H.lies (by decide) hk
  · rintro rfl; exact rown_ne H.part H.lies (by decide) hk
theorem TkAt.st (H : TkAt B W g t A n c A2 m c2) (s : St) : TkAt B (W.setCell ⟨g, 0, none⟩ (fnv s)) g { t with st := s } A n c A2 m c2 :=
  ⟨H.lies.set 0 _, (H.far 0 _).1, (H.far 0 _).2.1, H.hn, H.hm, H.gb⟩
theorem TkAt.setLine (H : TkAt B W g t A n c A2 m c2) (l : Str) : TkAt B (W.setCell ⟨g, 1, none⟩ (.string (S l))) g { t with line := l } A n c A2 m c2 :=
  ⟨H.lies.set 1 _, (H.far 1 _).1, (H.far 1 _).2.1, H.hn, H.hm, H.gb⟩
theorem TkAt.setName (H : TkAt B W g t A n c A2 m c2) (l : Str) : TkAt B (W.setCell ⟨g, 3, none⟩ (.string (S l))) g { t with name := l } A n c A2 m c2 :=
  ⟨H.lies.set 3 _, (H.far 3 _).1, (H.far 3 _).2.1, H.hn, H.hm, H.gb⟩
/-- the part is begun anew -/
theorem TkAt.empty (H : TkAt B W g t A n c A2 m c2) : TkAt B (W.setCell ⟨g, 4, none⟩ (.slice A2 (0 : Nat) c2)) g { t with part := [] } A n c A2 (0 : Nat) c2 := by
  have h1 := H.part
  have h2 : RowB W B (.slice A2 (0 : Nat) c2) [] := by
    refine ⟨rfl, ?_⟩
    rcases h1.2 with ⟨hv, _⟩ | ⟨k, cap, cur, hv, hb, hh, hnc, hmx, hs, ht⟩
    · simp only [Value.slice.injEq] at hv
      obtain ⟨rfl, _, rfl⟩ := hv
      exact .inl ⟨rfl, rfl⟩
    · simp only [Value.slice.injEq] at hv
      obtain ⟨rfl, _, rfl⟩ := hv
      exact .inr ⟨k, c2, cur, rfl, hb, hh, Nat.zero_le _, hmx, hs, rfl⟩
  refine ⟨H.lies.set 4 _, (H.far 4 _).1, rown_same h2 fun k hk => Below.heap_setCell _ _ _ _ ?_, H.hn, rfl, H.gb⟩
  rintro rfl
  exact rown_ne h2 H.lies (by decide) hk
/-- a byte more -/
theorem TkAt.push (H : TkAt B W g t A n c A2 m c2) (x : UInt8) (hl : m ≤ 100000) :
    ∃ A' c' W', (Builtin.append_ #[29, 29] 29 #[.slice A2 m c2, .slice (some ⟨W.heap.size, 0, none⟩) 1 1]).run Tryz.prog (W.alloc (.cells #[.int .u8 (x.toNat : Int)] 5)) = .ok (.slice A' (m + 1 : Nat) c') W' ∧
      Lies W' g 79 #[fnv t.st, .string (S t.line), .slice A n c, .string (S t.name), .slice A2 m c2] ∧ Below B W W' ∧ TkAt B (W'.setCell ⟨g, 4, none⟩ (.slice A' (m + 1 : Nat) c')) g { t with part := t.part ++ [x] } A n c A' (m + 1 : Nat) c' := by
  obtain ⟨A', c', W', hr, ho, hk⟩ := pushB H.part H.hm H.size x hl
  have L : Lies W' g 79 #[fnv t.st, .string (S t.line), .slice A n c, .string (S t.name), .slice A2 m c2] := H.lies.of_same (hk.block g H.lies.lt (rown_ne H.part H.lies (by decide)))
  have F : RowF W' B (.slice A n c) t.fs := rown_same H.fs fun k e => hk.block k (rown_lt H.fs e).2 (rown_apart H.fs H.part (by decide) e)
  refine ⟨A', c', W', hr, L, hk.below H.size fun k hk1 hk2 => ?_, L.set 4 _, rown_same F fun k e => Below.heap_setCell _ _ _ _ ?_, rown_same ho fun k e => Below.heap_setCell _ _ _ _ ?_, H.hn, by simp [H.hm], H.gb⟩
  · have := (rown_lt H.part hk2).1; omega
  · rintro rfl; exact rown_ne F L (by decide) e
  · rintro rfl; exact rown_ne ho L (by decide) e
/-- a field more -/
theorem TkAt.pushF (H : TkAt B W g t A n c A2 m c2) (p : Str × Str) (hl : n ≤ 1000) :
    ∃ A' c' W', (Builtin.append_ #[45, 45] 45 #[.slice A n c, .slice (some ⟨W.heap.size, 0, none⟩) 1 1]).run Tryz.prog (W.alloc (.cells #[.string (S p.1), .string (S p.2)] 54)) = .ok (.slice A' (n + 1 : Nat) c') W' ∧
      Lies W' g 79 #[fnv t.st, .string (S t.line), .slice A n c, .string (S t.name), .slice A2 m c2] ∧ Below B W W' ∧ TkAt B (W'.setCell ⟨g, 2, none⟩ (.slice A' (n + 1 : Nat) c')) g { t with fs := t.fs ++ [p] } A' (n + 1 : Nat) c' A2 m c2 := by
  obtain ⟨A', c', W', hr, ho, hk⟩ := hd.pushF H.fs H.hn H.size p hl
  have L : Lies W' g 79 #[fnv t.st, .string (S t.line), .slice A n c, .string (S t.name), .slice A2 m c2] := H.lies.of_same (hk.block g H.lies.lt (rown_ne H.fs H.lies (by decide)))
  have F : RowB W' B (.slice A2 m c2) t.part := rown_same H.part fun k e => hk.block k (rown_lt H.part e).2 (rown_apart H.part H.fs (by decide) e)
  refine ⟨A', c', W', hr, L, hk.below H.size fun k hk1 hk2 => ?_, L.set 2 _, rown_same ho fun k e => Below.heap_setCell _ _ _ _ ?_, rown_same F fun k e => Below.heap_setCell _ _ _ _ ?_, by simp [H.hn], H.hm, H.gb⟩
  · have := (rown_lt H.fs hk2).1; omega
  · rintro rfl; exact rown_ne ho L (by decide) e
  · rintro rfl; exact rown_ne F L (by decide) e
theorem TkAt.drew (H : TkAt B W g t A n c A2 m c2) : TkAt B W.drew g t A n c A2 m c2 := ⟨H.lies, H.fs, H.part, H.hn, H.hm, H.gb⟩
theorem TkAt.str (H : TkAt B W g t A n c A2 m c2) : (convert 29 9 (.slice A2 m c2)).run Tryz.prog W = .ok (.string (S t.part)) W := by
  have h := H.part
  have e := H.hm
  subst e
  exact spell_str (own_spell h)

theorem TkAt.next (H : TkAt B W g t A n c A2 m c2) {W' : World} (hb : Below W.heap.size W W') : TkAt B W' g t A n c A2 m c2 :=
  ⟨H.lies.below hb H.lies.lt, rown_same H.fs fun k hk => hb.block k (rown_lt H.fs hk).2, rown_same H.part fun k hk => hb.block k (rown_lt H.part hk).2, H.hn, H.hm, H.gb⟩
/-! ### keep, cut -/
theorem Tk.intro {W' : World} {t' : T} {A : Option Addr} {n c : Nat} {A2 : Option Addr} {m c2 : Nat} (h : TkAt B W' g t' A n c A2 m c2) (hb : Below B W W') : Went B W g (.ok t') (.returned (.int .i64 0)) W' := ⟨rfl, ⟨_, _, _, _, _, _, h⟩, hb⟩
set_option maxHeartbeats 1000000 in
theorem keep_any (H : Tk B W g t) (x : UInt8) {s : St} (hs : s ≠ .over) (hl : t.part.length ≤ 100000) : Calls Tryz.prog 69 #[.pointer (some ⟨g, 0, none⟩), .int .u8 (x.toNat : Int), fnv s] W (Went B W g (.ok { t with st := s, part := t.part ++ [x] })) := by
  obtain ⟨A, n, c, A2, m, c2, H⟩ := H
  rw [H.hm] at hl
  obtain ⟨A', c', W', hr, L, hb, K⟩ := H.push x hl
  have HR := Bx.mk hr
  have c4 := H.lies.cell 4
  have d4 := L.cell 4; have f4 := L.frozen 4
  have d0 := L.cell 0; have f0 := L.frozen 0
  simp at c4 d4 d0
  have HF := Bx.mk (Tk.intro (K.st s) (hb.trans (((Below.refl B W').setCell H.gb _).trans (K.far 0 (fnv s)).2.2)))
  obtain ⟨k, hk⟩ := fnv_fn hs
  rw [hk] at HF ⊢
  clear hk hs
  generalize fnv t.st = u0 at *
  clear H hr L hb K hl
  generalize (x.toNat : Int) = z at *
  go_enter Tryz.func69, Tryz.ntmps69
  go_wp2_with (at_builtin; refine wpList_append_eq rfl _ _ rfl rfl rfl rfl HR.out ?_)
  exact bodyPost_ret (v := .int .i64 0) (by simp [results, Tryz.results69, go_sem]) rfl HF.out

/-- the part is cut off -/
def CutTo (B : Nat) (W : World) (g : Nat) (t : T) (s : St) (e : Ending) (W' : World) : Prop := e = .returned (.string (S t.part)) ∧ Tk B W' g { t with st := s, part := [] } ∧ Below B W W'
theorem slice_zero (W : World) (A : Option Addr) (n c : Nat) : (Instr.slice 29 (.slice A n c) none (some (.int .i64 0)) none).run Tryz.prog W = .ok (.slice A (0 : Nat) c) W := by
  obtain ⟨i0, hi, hz0, hz1, hz2⟩ := info_parts (show (Tryz.prog.info? 5).map (fun i => (i.zero, i.size, i.bytes)) = some (some (.int .u8 0), 1, 1) by kernel_rfl)
  rw [run_slice_h W 29 _ n c (by kernel_rfl) .i64 _ (by omega) (by omega)]
  have he : Tryz.prog.elem 29 = 5 := by kernel_rfl
  rw [he]
  have hs : (sizeOf 5).run Tryz.prog W = .ok 1 W := by simp [sizeOf, typeInfo, hi, hz1]
  rw [hs]
  simp only [Result.andThen, sliced]
  cases A <;> simp [Addr.add]
set_option maxHeartbeats 1000000 in
theorem cut_any (H : Tk B W g t) {s : St} (hs : s ≠ .over) : Calls Tryz.prog 91 #[.pointer (some ⟨g, 0, none⟩), fnv s] W (CutTo B W g t s) := by
  obtain ⟨A, n, c, A2, m, c2, H⟩ := H
  have HC := H.str
  have K := H.empty
  have c4 := H.lies.cell 4; have f4 := H.lies.frozen 4
  have c0 := H.lies.cell 0; have f0 := H.lies.frozen 0
  simp at c4 c0
  have hz : ∀ W, (Instr.slice 29 (.slice A2 m c2) none (some (.int .i64 0)) none).run Tryz.prog W = .ok (.slice A2 (0 : Nat) c2) W := fun W => slice_zero W A2 m c2
  have HF : Bx (CutTo B W g t s (.returned (.string (S t.part))) _) := ⟨⟨rfl, ⟨_, _, _, _, _, _, K.st s⟩, ((Below.refl B W).setCell H.gb _).trans (K.far 0 (fnv s)).2.2⟩⟩
  obtain ⟨k, hk⟩ := fnv_fn hs
  rw [hk] at HF ⊢
  clear hk hs
  generalize fnv t.st = u0 at *
  clear H K
  go_enter Tryz.func91, Tryz.ntmps91
  go_wp2_with fail
  exact bodyPost_ret (v := .string (S t.part)) (by simp [results, Tryz.results91, go_sem]) rfl HF.out

/-! ### the states -/
theorem byte_eq {x : UInt8} {k : Nat} (hk : k < 256) (h : x.toNat = k) : x = UInt8.ofNat k := by rw [← h]; simp
theorem ne_int {x y : UInt8} (h : x ≠ y) : ((x.toNat : Int) == (y.toNat : Int)) = false ∧ ((x.toNat : Int) != (y.toNat : Int)) = true := by
  have h1 : ((x.toNat : Int) == (y.toNat : Int)) = false := by
    rw [beq_eq_false_iff_ne]
    intro e
    exact h (UInt8.toNat_inj.1 (by omega))
  exact ⟨h1, by simp [bne, h1]⟩
theorem ne13 {x : UInt8} (h : x ≠ 13) : ((x.toNat : Int) == (((⟨#[13, 10]⟩ : ByteArray)[0]'(by decide)).toNat : Int)) = false := (ne_int (y := 13) h).1
theorem ne10 {x : UInt8} (h : x ≠ 10) : ((x.toNat : Int) != (((⟨#[13, 10]⟩ : ByteArray)[1]'(by decide)).toNat : Int)) = true := (ne_int (y := 10) h).2
theorem ne9 {x : UInt8} (h : x ≠ 9) : ((x.toNat : Int) == 9) = false := (ne_int (y := 9) h).1
theorem ne58 {x : UInt8} (h : x ≠ 58) : ((x.toNat : Int) == 58) = false := (ne_int (y := 58) h).1
theorem went_err {k : Nat} : Went B W g (.error k) (.returned (.int .i64 (k : Int))) W := ⟨rfl, Below.refl _ _⟩
set_option maxHeartbeats 1000000 in
theorem first_any (H : Tk B W g t) (ht : t.st = .first) (x : UInt8) (hl : t.part.length ≤ 100000) : Calls Tryz.prog 40 #[.pointer (some ⟨g, 0, none⟩), .int .u8 (x.toNat : Int)] W (Went B W g (step t x)) := by
  have HM := Bx.mk (mayLine_any x W)
  cases hv : vis x with
  | false =>
    rw [show step t x = .error 6 by simp [step, ht, hv]]
    rw [hv] at HM
    generalize (x.toNat : Int) = z at *
    go_enter Tryz.func40, Tryz.ntmps40
    go_wp2_with fail
    refine HM.out.mono ?_
    rintro e w2 ⟨rfl, rfl⟩
    go_wp2_with fail
    exact bodyPost_ret (v := .int .i64 6) (by simp [results, Tryz.results40, go_sem]) rfl went_err
  | true =>
    have HK := Bx.mk (keep_any H x (s := .within) (by decide) hl)
    rw [show step t x = .ok { t with st := .within, part := t.part ++ [x] } by simp [step, ht, hv]]
    rw [hv] at HM
    generalize (x.toNat : Int) = z at *
    generalize hT : ({ t with st := .within, part := t.part ++ [x] } : T) = t' at *
    clear hT ht H
    go_enter Tryz.func40, Tryz.ntmps40
    go_wp2_with fail
    refine HM.out.mono ?_
    rintro e w2 ⟨rfl, rfl⟩
    go_wp2_with fail
    refine HK.out.mono ?_
    rintro e w3 ⟨rfl, h1⟩
    have H1 := Bx.mk h1
    clear h1
    go_wp2_with fail
    exact bodyPost_ret (v := .int .i64 0) (by simp [results, Tryz.results40, go_sem]) rfl ⟨rfl, H1.out⟩
set_option maxHeartbeats 1000000 in
theorem half_any (H : Tk B W g t) (ht : t.st = .half) (x : UInt8) : Calls Tryz.prog 92 #[.pointer (some ⟨g, 0, none⟩), .int .u8 (x.toNat : Int)] W (Went B W g (step t x)) := by
  by_cases hx : x = 10
  · subst hx
    rw [show step t 10 = .ok { t with st := .begin } by simp [step, ht]]
    obtain ⟨A, n, c, A2, m, c2, H⟩ := H
    have c0 := H.lies.cell 0; have f0 := H.lies.frozen 0
    simp at c0
    have HF := Bx.mk (Tk.intro (H.st .begin) (H.far 0 (fnv .begin)).2.2)
    generalize fnv t.st = u0 at *
    clear H ht
    go_enter Tryz.func92, Tryz.ntmps92
    go_wp2_with fail
    exact bodyPost_ret (v := .int .i64 0) (by simp [results, Tryz.results92, go_sem]) rfl HF.out
  · rw [show step t x = .error 6 by simp [step, ht, hx]]
    have hz := ne10 hx
    generalize (x.toNat : Int) = z at *
    go_enter Tryz.func92, Tryz.ntmps92
    go_wp2_with fail
    exact bodyPost_ret (v := .int .i64 6) (by simp [results, Tryz.results92, go_sem]) rfl went_err
set_option maxHeartbeats 1000000 in
theorem last_any (H : Tk B W g t) (ht : t.st = .last) (x : UInt8) : Calls Tryz.prog 134 #[.pointer (some ⟨g, 0, none⟩), .int .u8 (x.toNat : Int)] W (Went B W g (step t x)) := by
  by_cases hx : x = 10
  · subst hx
    rw [show step t 10 = .ok { t with st := .over } by simp [step, ht]]
    obtain ⟨A, n, c, A2, m, c2, H⟩ := H
    have c0 := H.lies.cell 0; have f0 := H.lies.frozen 0
    simp at c0
    have HF := Bx.mk (Tk.intro (H.st .over) (H.far 0 (fnv .over)).2.2)
    generalize fnv t.st = u0 at *
    clear H ht
    go_enter Tryz.func134, Tryz.ntmps134
    go_wp2_with fail
    exact bodyPost_ret (v := .int .i64 0) (by simp [results, Tryz.results134, go_sem]) rfl HF.out
  · rw [show step t x = .error 6 by simp [step, ht, hx]]
    have hz := ne10 hx
    generalize (x.toNat : Int) = z at *
    go_enter Tryz.func134, Tryz.ntmps134
    go_wp2_with fail
    exact bodyPost_ret (v := .int .i64 6) (by simp [results, Tryz.results134, go_sem]) rfl went_err
set_option maxHeartbeats 2000000 in
theorem within_any (H : Tk B W g t) (ht : t.st = .within) (x : UInt8) (hl : t.part.length ≤ 100000) : Calls Tryz.prog 70 #[.pointer (some ⟨g, 0, none⟩), .int .u8 (x.toNat : Int)] W (Went B W g (step t x)) := by
  have HM := Bx.mk (mayLine_any x W)
  cases hv : vis x with
  | true =>
    have HK := Bx.mk (keep_any H x (s := .within) (by decide) hl)
    rw [show step t x = .ok { t with st := .within, part := t.part ++ [x] } by simp [step, ht, hv]]
    rw [hv] at HM
    generalize (x.toNat : Int) = z at *
    generalize hT : ({ t with st := .within, part := t.part ++ [x] } : T) = t' at *
    clear hT ht H
    go_enter Tryz.func70, Tryz.ntmps70
    go_wp2_with fail
    refine HM.out.mono ?_
    rintro e w2 ⟨rfl, rfl⟩
    go_wp2_with fail
    refine HK.out.mono ?_
    rintro e w3 ⟨rfl, h1⟩
    have H1 := Bx.mk h1
    clear h1
    go_wp2_with fail
    exact bodyPost_ret (v := .int .i64 0) (by simp [results, Tryz.results70, go_sem]) rfl ⟨rfl, H1.out⟩
  | false =>
    rw [hv] at HM
    by_cases hx : x = 13
    · subst hx
      have HC := Bx.mk (cut_any H (s := .half) (by decide))
      rw [show step t 13 = .ok { t with st := .half, line := t.part, part := [] } by simp [step, ht, show vis 13 = false by decide]]
      clear H ht hv
      go_enter Tryz.func70, Tryz.ntmps70
      go_wp2_with fail
      refine HM.out.mono ?_
      rintro e w2 ⟨rfl, rfl⟩
      go_wp2_with fail
      refine HC.out.mono ?_
      rintro e w3 ⟨rfl, ⟨A, n, c, A2, m, c2, H⟩, hb⟩
      have c1 := H.lies.cell 1; have f1 := H.lies.frozen 1
      simp at c1
      have HF := Bx.mk (Tk.intro (H.setLine t.part) (hb.trans (H.far 1 (.string (S t.part))).2.2))
      clear H hb HC
      go_wp2_with fail
      exact bodyPost_ret (v := .int .i64 0) (by simp [results, Tryz.results70, go_sem]) rfl HF.out
    · rw [show step t x = .error 6 by simp [step, ht, hv, hx]]
      have hz := ne13 hx
      generalize (x.toNat : Int) = z at *
      clear H ht hv hx
      go_enter Tryz.func70, Tryz.ntmps70
      go_wp2_with fail
      refine HM.out.mono ?_
      rintro e w2 ⟨rfl, rfl⟩
      go_wp2_with fail
      exact bodyPost_ret (v := .int .i64 6) (by simp [results, Tryz.results70, go_sem]) rfl went_err
set_option maxHeartbeats 2000000 in
theorem named_any (H : Tk B W g t) (ht : t.st = .named) (x : UInt8) (hl : t.part.length ≤ 100000) : Calls Tryz.prog 135 #[.pointer (some ⟨g, 0, none⟩), .int .u8 (x.toNat : Int)] W (Went B W g (step t x)) := by
  have HM := Bx.mk (mayName_any x W)
  cases hv : sgn x with
  | true =>
    have HK := Bx.mk (keep_any H (lw x) (s := .named) (by decide) hl)
    have HL := Bx.mk (lower_any x W)
    rw [show step t x = .ok { t with st := .named, part := t.part ++ [lw x] } by simp [step, ht, hv]]
    rw [hv] at HM
    generalize (x.toNat : Int) = z at *
    generalize ((lw x).toNat : Int) = y at *
    generalize hT : ({ t with st := .named, part := t.part ++ [lw x] } : T) = t' at *
    clear hT ht H
    go_enter Tryz.func135, Tryz.ntmps135
    go_wp2_with fail
    refine HM.out.mono ?_
    rintro e w2 ⟨rfl, rfl⟩
    go_wp2_with fail
    refine HL.out.mono ?_
    rintro e w2 ⟨rfl, rfl⟩
    go_wp2_with fail
    refine HK.out.mono ?_
    rintro e w3 ⟨rfl, h1⟩
    have H1 := Bx.mk h1
    clear h1
    go_wp2_with fail
    exact bodyPost_ret (v := .int .i64 0) (by simp [results, Tryz.results135, go_sem]) rfl ⟨rfl, H1.out⟩
  | false =>
    rw [hv] at HM
    by_cases hx : x = 58
    · subst hx
      have HC := Bx.mk (cut_any H (s := .valued) (by decide))
      rw [show step t 58 = .ok { t with st := .valued, name := t.part, part := [] } by simp [step, ht, show sgn 58 = false by decide]]
      clear H ht hv
      go_enter Tryz.func135, Tryz.ntmps135
      go_wp2_with fail
      refine HM.out.mono ?_
      rintro e w2 ⟨rfl, rfl⟩
      go_wp2_with fail
      refine HC.out.mono ?_
      rintro e w3 ⟨rfl, ⟨A, n, c, A2, m, c2, H⟩, hb⟩
      have c1 := H.lies.cell 3; have f1 := H.lies.frozen 3
      simp at c1
      have HF := Bx.mk (Tk.intro (H.setName t.part) (hb.trans (H.far 3 (.string (S t.part))).2.2))
      clear H hb HC
      go_wp2_with fail
      exact bodyPost_ret (v := .int .i64 0) (by simp [results, Tryz.results135, go_sem]) rfl HF.out
    · rw [show step t x = .error 6 by simp [step, ht, hv, hx]]
      have hz := ne58 hx
      generalize (x.toNat : Int) = z at *
      clear H ht hv hx
      go_enter Tryz.func135, Tryz.ntmps135
      go_wp2_with fail
      refine HM.out.mono ?_
      rintro e w2 ⟨rfl, rfl⟩
      go_wp2_with fail
      exact bodyPost_ret (v := .int .i64 6) (by simp [results, Tryz.results135, go_sem]) rfl went_err
set_option maxHeartbeats 2000000 in
theorem begin_any (H : Tk B W g t) (ht : t.st = .begin) (x : UInt8) (hl : t.part.length ≤ 100000) (hf : t.fs.length ≤ 16) : Calls Tryz.prog 112 #[.pointer (some ⟨g, 0, none⟩), .int .u8 (x.toNat : Int)] W (Went B W g (step t x)) := by
  have HM := Bx.mk (mayName_any x W)
  by_cases hx : x = 13
  · subst hx
    rw [show step t 13 = .ok { t with st := .last } by simp [step, ht]]
    obtain ⟨A, n, c, A2, m, c2, H⟩ := H
    have c0 := H.lies.cell 0; have f0 := H.lies.frozen 0
    simp at c0
    have HF := Bx.mk (Tk.intro (H.st .last) (H.far 0 (fnv .last)).2.2)
    generalize fnv t.st = u0 at *
    clear H ht HM hl hf
    go_enter Tryz.func112, Tryz.ntmps112
    go_wp2_with fail
    exact bodyPost_ret (v := .int .i64 0) (by simp [results, Tryz.results112, go_sem]) rfl HF.out
  · have hz := ne13 hx
    cases hv : sgn x with
    | false =>
      rw [show step t x = .error 6 by simp [step, ht, hv, hx]]
      rw [hv] at HM
      generalize (x.toNat : Int) = z at *
      clear H ht hv hx hl hf
      go_enter Tryz.func112, Tryz.ntmps112
      go_wp2_with fail
      refine HM.out.mono ?_
      rintro e w2 ⟨rfl, rfl⟩
      go_wp2_with fail
      exact bodyPost_ret (v := .int .i64 6) (by simp [results, Tryz.results112, go_sem]) rfl went_err
    | true =>
      have HK := Bx.mk (keep_any H (lw x) (s := .named) (by decide) hl)
      have HL := Bx.mk (lower_any x W)
      obtain ⟨A, n, c, A2, m, c2, H⟩ := H
      have c2' := H.lies.cell 2
      simp at c2'
      rw [hv] at HM
      rcases (show n = 16 ∨ n < 16 by have := H.hn; omega) with hn | hn
      · subst hn
        rw [show step t x = .error 3 by simp [step, ht, hv, hx, H.hn]]
        generalize (x.toNat : Int) = z at *
        clear H ht hv hx hl hf HK HL
        go_enter Tryz.func112, Tryz.ntmps112
        go_wp2_with fail
        refine HM.out.mono ?_
        rintro e w2 ⟨rfl, rfl⟩
        go_wp2_with fail
        exact bodyPost_ret (v := .int .i64 3) (by simp [results, Tryz.results112, go_sem]) rfl went_err
      · have hq : ((n : Int) == 16) = false := by rw [beq_eq_false_iff_ne]; omega
        rw [show step t x = .ok { t with st := .named, part := t.part ++ [lw x] } by
          have := H.hn
          simp [step, ht, hv, hx]
          omega]
        generalize (x.toNat : Int) = z at *
        generalize ((lw x).toNat : Int) = y at *
        generalize hT : ({ t with st := .named, part := t.part ++ [lw x] } : T) = t' at *
        clear H ht hv hx hl hf hT hn
        go_enter Tryz.func112, Tryz.ntmps112
        go_wp2_with fail
        refine HM.out.mono ?_
        rintro e w2 ⟨rfl, rfl⟩
        go_wp2_with fail
        refine HL.out.mono ?_
        rintro e w2 ⟨rfl, rfl⟩
        go_wp2_with fail
        refine HK.out.mono ?_
        rintro e w3 ⟨rfl, h1⟩
        have H1 := Bx.mk h1
        clear h1
        go_wp2_with fail
        exact bodyPost_ret (v := .int .i64 0) (by simp [results, Tryz.results112, go_sem]) rfl ⟨rfl, H1.out⟩

theorem blanks (c : UInt8) : ([32, 9] : Str).contains c = blank c := by
  have := byte_all (fun c => ([32, 9] : Str).contains c == blank c) (by decide +kernel) c
  simpa using this
theorem trim_swap (s : Str) : ((s.reverse.dropWhile blank).reverse).dropWhile blank = trim s := by
  unfold trim
  induction s with
  | nil => rfl
  | cons x r ih =>
    rw [List.reverse_cons, List.dropWhile_append]
    cases hb : blank x with
    | true =>
      have e1 : (x :: r).dropWhile blank = r.dropWhile blank := by simp [hb]
      rw [e1]
      cases hd : r.reverse.dropWhile blank with
      | nil =>
        rw [hd] at ih
        simp [hb] at ih ⊢
        exact ih
      | cons y q =>
        rw [hd] at ih
        simp only [List.isEmpty_cons, Bool.false_eq_true, if_false, List.reverse_append, List.reverse_singleton, List.singleton_append]
        rw [List.dropWhile_cons, hb, if_pos rfl, ih]
    | false =>
      have e1 : (x :: r).dropWhile blank = x :: r := by simp [hb]
      rw [e1, List.reverse_cons, List.dropWhile_append]
      cases hd : r.reverse.dropWhile blank with
      | nil => simp [hb]
      | cons y q =>
        simp only [List.isEmpty_cons, Bool.false_eq_true, if_false, List.reverse_append, List.reverse_singleton, List.singleton_append]
        rw [List.dropWhile_cons, hb]
        simp
theorem trimS_eq (l : Str) : Lib.trimS l [32, 9] = trim l := by
  rw [← trim_swap]
  unfold Lib.trimS Lib.trimLeftS Lib.trimRightS
  have e : (fun x => ([32, 9] : Str).contains x) = blank := funext blanks
  simp only [e]
theorem trim_any (l : Str) (hs : l.length ≤ 1000000000) (w : World) : Calls Tryz.prog 137 #[.string (S l), .string ⟨#[32, 9]⟩] w (Gives (.string (S (trim l))) w) := by
  have h := Any.strings_Trim_laid Tryz.lays160 (by kernel_rfl) (S l) ⟨#[32, 9]⟩ w (by rw [S_size]; omega) (by decide) (ascii_of_all (by decide))
  rw [← trimS_eq]
  have e : (S l).data.toList = l := S_list l
  rw [e] at h
  exact h
set_option maxHeartbeats 4000000 in
theorem valued_any (H : Tk B W g t) (ht : t.st = .valued) (x : UInt8) (hl : t.part.length ≤ 100000) (hf : t.fs.length ≤ 16) : Calls Tryz.prog 151 #[.pointer (some ⟨g, 0, none⟩), .int .u8 (x.toNat : Int)] W (Went B W g (step t x)) := by
  have HM := Bx.mk (mayLine_any x W)
  by_cases hv : vtab x = true
  · have HK := Bx.mk (keep_any H x (s := .valued) (by decide) hl)
    rw [show step t x = .ok { t with st := .valued, part := t.part ++ [x] } by simp [step, ht, hv]]
    generalize hT : ({ t with st := .valued, part := t.part ++ [x] } : T) = t' at *
    cases hvis : vis x with
    | true =>
      rw [hvis] at HM
      generalize (x.toNat : Int) = z at *
      clear hT ht H hv hvis
      go_enter Tryz.func151, Tryz.ntmps151
      go_wp2_with fail
      refine HM.out.mono ?_
      rintro e w2 ⟨rfl, rfl⟩
      go_wp2_with fail
      refine HK.out.mono ?_
      rintro e w3 ⟨rfl, h1⟩
      have H1 := Bx.mk h1
      clear h1
      go_wp2_with fail
      exact bodyPost_ret (v := .int .i64 0) (by simp [results, Tryz.results151, go_sem]) rfl ⟨rfl, H1.out⟩
    | false =>
      have hx : x = 9 := by simpa [vtab, hvis] using hv
      subst hx
      rw [hvis] at HM
      clear hT ht H hv hvis
      go_enter Tryz.func151, Tryz.ntmps151
      go_wp2_with fail
      refine HM.out.mono ?_
      rintro e w2 ⟨rfl, rfl⟩
      go_wp2_with fail
      refine HK.out.mono ?_
      rintro e w3 ⟨rfl, h1⟩
      have H1 := Bx.mk h1
      clear h1
      go_wp2_with fail
      exact bodyPost_ret (v := .int .i64 0) (by simp [results, Tryz.results151, go_sem]) rfl ⟨rfl, H1.out⟩
  · have hv0 : vtab x = false := by simpa using hv
    have hvis : vis x = false := by simp [vtab] at hv0; exact hv0.1
    have hx9 : x ≠ 9 := by simp [vtab] at hv0; exact hv0.2
    have h9 := ne9 hx9
    rw [hvis] at HM
    by_cases hx : x = 13
    · subst hx
      have HC := Bx.mk (cut_any H (s := .half) (by decide))
      have HTr := Bx.mk (trim_any t.part (by omega))
      rw [show step t 13 = .ok { t with st := .half, fs := t.fs ++ [(t.name, trim t.part)], part := [] } by simp [step, ht, show vtab 13 = false by decide]]
      have HFS := Bx.mk hf
      clear H ht hv hv0 hvis hl hf hx9
      go_enter Tryz.func151, Tryz.ntmps151
      go_wp2_with fail
      refine HM.out.mono ?_
      rintro e w2 ⟨rfl, rfl⟩
      go_wp2_with fail
      refine HC.out.mono ?_
      rintro e w3 ⟨rfl, ⟨A, n, c, A2, m, c2, H⟩, hb⟩
      have HH := Bx.mk H
      have HB := Bx.mk hb
      clear H hb HC
      go_wp2_with fail
      refine (HTr.out w3).mono ?_
      rintro e w4 ⟨rfl, hb4⟩
      have hb5 := hb4.trans ((Below.refl _ _).drew.mono hb4.size)
      have H5 := HH.out.next hb5
      obtain ⟨A', c', W', hr, L, hb6, K⟩ := H5.pushF (t.name, trim t.part) (by have := HFS.out; have := H5.hn; simp at this; omega)
      have HR : Bx ((Builtin.append_ #[45, 45] 45 #[.slice A n c, .slice (some ⟨w4.heap.size, 0, none⟩) 1 1]).run Tryz.prog ((w4.alloc (.cells #[.string (S t.name), .string (S (trim t.part))] 54)).drew) = .ok (.slice A' (n + 1 : Nat) c') W') := ⟨hr⟩
      have cc2 : w4.cell? ⟨g, 2, none⟩ = some (.slice A n c) := H5.lies.cell 2
      have cc3 : w4.cell? ⟨g, 3, none⟩ = some (.string (S t.name)) := H5.lies.cell 3
      have hg4 : g < w4.heap.size := H5.lies.lt
      have d2 : W'.cell? ⟨g, 2, none⟩ = some (.slice A n c) := L.cell 2
      have f2 := L.frozen 2
      have HF := Bx.mk (Tk.intro K (HB.out.trans ((hb5.mono HH.out.size).trans (hb6.trans ((Below.refl B W').setCell H5.gb _)))))
      clear hb4 HTr hb5 H5 hr L hb6 K HH HB HFS
      go_wp2_with fail
      go_region_law (refine step_append_eq rfl _ _ 45 45 rfl rfl (by simp [Act.eval]) (by simp [Act.eval]) HR.out ?_)
      all_goals
        go_wp2_with fail
        exact bodyPost_ret (v := .int .i64 0) (by simp [results, Tryz.results151, go_sem]) rfl HF.out
    · rw [show step t x = .error 6 by simp [step, ht, hv0, hx]]
      have hz := ne13 hx
      generalize (x.toNat : Int) = z at *
      clear H ht hv hv0 hx hvis hl hf hx9
      go_enter Tryz.func151, Tryz.ntmps151
      go_wp2_with fail
      refine HM.out.mono ?_
      rintro e w2 ⟨rfl, rfl⟩
      go_wp2_with fail
      exact bodyPost_ret (v := .int .i64 6) (by simp [results, Tryz.results151, go_sem]) rfl went_err
end
end Go.Proofs.YtghdaengkgiekaaGreatDoor.hd
