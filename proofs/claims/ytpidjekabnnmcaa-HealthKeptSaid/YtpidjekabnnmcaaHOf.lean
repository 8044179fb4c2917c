/-
  Given for the seat's laws: the law's own configurations. No condition but those of the theorems.
-/
import Derived.Test.YtpidjekabnnmcaaHNew
namespace Go.Proofs.Ytpidjekabnnmcaa.hp
open Go.RowKit mem find pb
set_option linter.unusedVariables false

abbrev names : ByteArray := ⟨#[97, 98, 99, 100, 101, 102, 103, 104, 105, 106, 107, 108, 109, 110, 111, 112]⟩
def nmOf (i : Nat) : ByteArray := names.extract i (i + 1)
theorem run_nm (W : World) (i : Nat) (hi : i < 16) : (Instr.slice 9 (.string names) (some (.int .i64 (i : Int))) (some (.int .i64 ((i : Int) + 1))) none).run Try.prog W = .ok (.string (nmOf i)) W := by
  rw [run_slice_string (P := Try.prog) (w := W) 9 names .i64 .i64 (i : Int) ((i : Int) + 1) Try.underlying9 (by omega) (by omega) (by show (i : Int) + 1 ≤ 16; omega)]
  rfl
def paOf (i : Nat) : PaD := ⟨nmOf i, 3, nmOf i, 1080, 1, ⟨#[]⟩, ⟨#[]⟩, 0⟩
def pasOf (n : Nat) : List PaD := (List.range n).map paOf
theorem pasOf_succ (n : Nat) : pasOf (n + 1) = pasOf n ++ [paOf n] := by simp [pasOf, List.range_succ]
theorem pasOf_len (n : Nat) : (pasOf n).length = n := by simp [pasOf]
def pcells (x : PaD) : List Value := [.string x.nm, .int .u8 x.kd, .string x.tx, .int .i64 x.po, .int .u8 x.pr, .string x.us, .string x.pw, .int .i64 x.we]
def flatP (l : List PaD) : List Value := l.flatMap pcells
theorem flatP_snoc (l : List PaD) (x : PaD) : flatP (l ++ [x]) = flatP l ++ pcells x := by simp [flatP]
theorem flatP_get (l : List PaD) : ∀ (i : Nat) (x : PaD), l[i]? = some x → ∀ j v, (pcells x)[j]? = some v → (flatP l)[i * 8 + j]? = some v := by
  induction l with
  | nil => intro i x h; simp at h
  | cons a r ih =>
    intro i x h j v hv
    have e : flatP (a :: r) = pcells a ++ flatP r := rfl
    have hj : j < 8 := by have := (List.getElem?_eq_some_iff.1 hv).1; simpa [pcells] using this
    cases i with
    | zero =>
      simp at h
      subst h
      rw [e, Nat.zero_mul, Nat.zero_add, List.getElem?_append_left (by simpa [pcells] using hj)]
      exact hv
    | succ i =>
      rw [List.getElem?_cons_succ] at h
      rw [e, List.getElem?_append_right (by simp [pcells]; omega)]
      have : (i + 1) * 8 + j - (pcells a).length = i * 8 + j := by simp [pcells]; omega
      rw [this]
      exact ih i x h j v hv
theorem infoPar : (Try.prog.info? 71).map (fun i => (i.zero, i.size, i.bytes)) = some (some (.agg #[.string ⟨#[]⟩, .int .u8 0, .string ⟨#[]⟩, .int .i64 0, .int .u8 0, .string ⟨#[]⟩, .string ⟨#[]⟩, .int .i64 0]), 8, 96) := by kernel_rfl
abbrev OwnP (w0 wr : World) (A : Option Addr) (c : Nat) (l : List PaD) : Prop := wr.ownsRow w0.heap.size 71 8 (.slice A l.length c) l.length (flatP l)
theorem pas_of_own {w0 wr : World} {A : Option Addr} {c : Nat} {l : List PaD} (h : OwnP w0 wr A c l) : PasAt wr (fun g => w0.heap.size ≤ g ∧ g < wr.heap.size ∧ rowOf A = some g) A l := ⟨fun hp => by
  rcases h.2 with ⟨hv, hn⟩ | ⟨g, cap, cur, hv, hb, hh, hnc, hm, hs, ht⟩
  · omega
  · simp only [Value.slice.injEq] at hv
    obtain ⟨rfl, _, rfl⟩ := hv
    refine ⟨g, 0, rfl, ⟨hb, (Array.getElem?_eq_some_iff.1 hh).1, rfl⟩, fun j x hx => ?_⟩
    have key : ∀ i v, (pcells x)[i]? = some v → wr.cell? ⟨g, 0 + j * 8 + i, none⟩ = some v := fun i v hv => by
      have h1 := flatP_get l j x hx i v hv
      rw [← ht, List.getElem?_take] at h1
      split at h1
      · simp [World.cell?, hh]
        simpa using h1
      · cases h1
    exact ⟨key 0 _ rfl, key 1 _ rfl, key 2 _ rfl, key 3 _ rfl, key 4 _ rfl, key 5 _ rfl, key 6 _ rfl, key 7 _ rfl⟩⟩
theorem OwnP.push {w0 wr : World} {A : Option Addr} {c : Nat} {l : List PaD} (h : OwnP w0 wr A c l) (hw : w0.heap.size ≤ wr.heap.size) (x : PaD) (hn : l.length ≤ 1000) :
    ∃ A' c' W', (Builtin.append_ #[25, 25] 25 #[.slice A l.length c, .slice (some ⟨wr.heap.size, 0, none⟩) 1 1]).run Try.prog (wr.alloc (.cells #[.string x.nm, .int .u8 x.kd, .string x.tx, .int .i64 x.po, .int .u8 x.pr, .string x.us, .string x.pw, .int .i64 x.we] 71)) = .ok (.slice A' (l.length + 1) c') W' ∧
      OwnP w0 W' A' c' (l ++ [x]) ∧ (wr.alloc (.cells #[.string x.nm, .int .u8 x.kd, .string x.tx, .int .i64 x.po, .int .u8 x.pr, .string x.us, .string x.pw, .int .i64 x.we] 71)).grownBy W' (Value.slice A l.length c).ownBlock := by
  obtain ⟨i0, hinf, hz0, hz1, hz2⟩ := info_parts infoPar
  have hb : Below wr.heap.size wr (wr.alloc (.cells #[.string x.nm, .int .u8 x.kd, .string x.tx, .int .i64 x.po, .int .u8 x.pr, .string x.us, .string x.pw, .int .i64 x.we] 71)) := (Below.refl _ wr).alloc (Nat.le_refl _) _
  have h1 := pl.own_below h hb
  have hl := Lies.new wr 71 #[.string x.nm, .int .u8 x.kd, .string x.tx, .int .i64 x.po, .int .u8 x.pr, .string x.us, .string x.pw, .int .i64 x.we]
  obtain ⟨g, cap, w', hr, ho, hg, hat, _⟩ := run_append_lies (P := Try.prog) _ 25 25 w0.heap.size 71 i0 _ 8 96 Try.underlying25 hinf hz0 hz1 hz2 rfl (by decide) _ _ _ h1 ⟨wr.heap.size, 0, none⟩ 1 1 (pcells x) rfl
    (fun j u hu => by
      rw [Addr.add_lit, Nat.zero_add, hl.cell]
      rw [← hu]
      simp [pcells]) (by simp [pcells, Value.oneCell']) (by decide) (by unfold maxLen; omega) (by omega) (by simp; omega) _ rfl
  have e1 : (l ++ [x]).length = l.length + 1 := by simp
  refine ⟨some ⟨g, 0, none⟩, cap, w', hr, ?_, hg⟩
  unfold OwnP
  rw [e1, flatP_snoc]
  exact ho

/-- the configuration that 'of' makes -/
def cfOf (n : Nat) (f k e : Int) (A : Option Addr) (c : Nat) : CfD := ⟨.string ⟨#[]⟩, 0, 0, 0, 0, 0, 0, 0, 0, f, k, e, .slice none 0 0, A, pasOf n, c, .slice none 0 0, .slice none 0 0⟩
abbrev zcf : Array Value := #[.string ⟨#[]⟩, .int .i64 0, .int .i64 0, .int .i64 0, .int .i64 0, .int .i64 0, .int .i64 0, .int .i64 0, .int .i64 0, .int .i64 0, .int .i64 0, .int .i64 0, .slice none 0 0, .slice none 0 0, .slice none 0 0, .slice none 0 0]
abbrev ccs (f k e : Int) (v : Value) : Array Value := #[.string ⟨#[]⟩, .int .i64 0, .int .i64 0, .int .i64 0, .int .i64 0, .int .i64 0, .int .i64 0, .int .i64 0, .int .i64 0, .int .i64 f, .int .i64 k, .int .i64 e, .slice none 0 0, v, .slice none 0 0, .slice none 0 0]
/-- what 'of' leaves -/
structure OfPost (n : Nat) (f k e : Int) (w : World) (en : Ending) (w' : World) : Prop where
  ex : ∃ A c, en = .returned (cfOf n f k e A c).v ∧ PasAt w' (fun g => w.heap.size ≤ g ∧ g < w'.heap.size) A (pasOf n)
  below : Below w.heap.size w w'
/-- the same, and that its row has room for its parents -/
structure OfPost2 (n : Nat) (f k e : Int) (w : World) (en : Ending) (w' : World) : Prop where
  ex : ∃ A c, en = .returned (cfOf n f k e A c).v ∧ PasAt w' (fun g => w.heap.size ≤ g ∧ g < w'.heap.size) A (pasOf n) ∧ n ≤ c
  below : Below w.heap.size w w'
theorem OwnP.cap {w0 wr : World} {A : Option Addr} {c : Nat} {l : List PaD} (h : OwnP w0 wr A c l) : l.length ≤ c := by
  rcases h.2 with ⟨hv, h0⟩ | ⟨g, cap, cur, hv, hb, hh, hnc, _⟩
  · omega
  · simp only [Value.slice.injEq] at hv
    omega
/-- while it is made -/
structure OfI (f k e : Int) (w : World) (j : Nat) (wr : World) : Prop where
  b0 : Lies wr w.heap.size 29 zcf
  ex : ∃ A c, Lies wr (w.heap.size + 1) 29 (ccs f k e (.slice A j c)) ∧ OwnP w wr A c (pasOf j)
  below : Below w.heap.size w wr
set_option maxRecDepth 100000 in
set_option maxHeartbeats 8000000 in
theorem of_any2 (n : Nat) (f k e : Int) (w : World) (hn : n ≤ 16) : Calls Try.prog 21 #[.int .i64 (n : Int), .int .i64 f, .int .i64 k, .int .i64 e] w (OfPost2 n f k e w) := by
  have hmix : Try.prog.follows .mixedOrders = true := by kernel_rfl
  have hst : OfI f k e w 0 ((w.alloc (.cells zcf 29)).alloc (.cells (ccs f k e (.slice none 0 0)) 29)) := by
    have h0 := Lies.new w 29 zcf
    have h1 := Lies.new (w.alloc (.cells zcf 29)) 29 (ccs f k e (.slice none 0 0))
    rw [World.size_alloc] at h1
    exact ⟨h0.alloc _, ⟨none, 0, h1, World.ownsRow_nil _ _ _ _⟩, ((Below.refl _ w).alloc (Nat.le_refl _) _).alloc (by simp) _⟩
  have HST := bk.Bx.mk hst
  clear hst
  go_enter Try.func21, Try.ntmps21
  go_wp2_with fail
  go_loopw [11] (fun s11 wr => ∃ j : Nat, j ≤ n ∧ s11 = .int .i64 j ∧ bk.Bx (OfI f k e w j wr)) (fun s11 _ => n - (intOf s11).toNat)
  case atStart => exact ⟨0, by omega, rfl, HST⟩
  case round =>
    obtain ⟨j, hj, rfl, hI⟩ := hrel
    by_cases hjn : j < n
    · have h16 : j < 16 := by omega
      obtain ⟨A, c, hc, ho⟩ := hI.out.ex
      have c13 := hc.cell 13
      simp at c13
      have hlt1 := hc.lt
      have hlt0 := hI.out.b0.lt
      have hwj : IntKind.i64.wrap ((j : Int) + 1) = (j : Int) + 1 := IntWalk.i64_in _ (by omega)
      have hj16 : (j : Int) + 1 ≤ 16 := by omega
      have hjt : ((j : Int) + 1).toNat = j + 1 := by omega
      have hj0 : (0 : Int) ≤ (j : Int) + 1 := by omega
      have hjj : (j : Int) ≤ (j : Int) + 1 := by omega
      have hdr : Below wr.heap.size wr wr.drew := (Below.refl _ _).drew
      have hwd : w.heap.size ≤ wr.drew.heap.size := hI.out.below.size
      have ho2 : OwnP w wr.drew A c (pasOf j) := pl.own_below ho hdr
      obtain ⟨A', c', W', hr, ho3, hg⟩ := OwnP.push ho2 hwd (paOf j) (by rw [pasOf_len]; omega)
      rw [pasOf_len] at hr hg
      have hal : Below wr.heap.size wr (wr.drew.alloc (.cells #[.string (nmOf j), .int .u8 3, .string (nmOf j), .int .i64 1080, .int .u8 1, .string ⟨#[]⟩, .string ⟨#[]⟩, .int .i64 0] 71)) := hdr.alloc hdr.size _
      have far : ∀ (g : Nat) (t : TypeId) (cs : Array Value), Lies wr g t cs → t ≠ 71 → Lies W' g t cs := fun g t cs hl ht => (hl.below hal hl.lt).grown hg (fun e0 => by
        obtain ⟨_, cur, hcur⟩ := pl.own_cell ho2 (by rw [pasOf_len]; exact e0.symm)
        exact ht ((hl.below hdr hl.lt).inj hcur).1)
      have h9 := far _ _ _ hc (by decide)
      have f13 := h9.frozen 13
      have d13 := h9.cell 13
      simp at d13
      have HN : bk.Bx (OfI f k e w (j + 1) (W'.setCell ⟨w.heap.size + 1, 13, none⟩ (.slice A' (j + 1) c'))) := ⟨by
        have hb9 : Keep w.heap.size (fun _ => False) w W' := ((Keep.of_below hI.out.below (fun _ => False)).trans (Keep.of_below (hal.mono hI.out.below.size) _)).grown hg (by have := hal.size; have := hI.out.below.size; omega) (fun g e0 => .inl (pl.own_cell (g := g) ho2 (by rw [pasOf_len]; exact e0)).1)
        refine ⟨(far _ _ _ hI.out.b0 (by decide)).far (p := ⟨w.heap.size + 1, 13, none⟩) (by show w.heap.size ≠ w.heap.size + 1; omega) _, ⟨A', c', h9.set 13 _, ?_⟩, (hb9.setCell (p := ⟨w.heap.size + 1, 13, none⟩) (.inl (by show w.heap.size ≤ w.heap.size + 1; omega)) _).below (Nat.le_refl _) (fun _ _ hf => hf)⟩
        rw [← pasOf_succ] at ho3
        refine wn.rown_same ho3 fun g e0 => Below.heap_setCell _ _ _ _ ?_
        show g ≠ w.heap.size + 1
        intro e1
        obtain ⟨_, cur, hcur⟩ := pl.own_cell ho3 e0
        rw [e1] at hcur
        exact absurd (h9.inj hcur).1 (by decide)⟩
      have HR : bk.Bx ((Builtin.append_ #[25, 25] 25 #[.slice A j c, .slice (some ⟨wr.heap.size, 0, none⟩) 1 1]).run Try.prog (wr.drew.alloc (.cells #[.string (nmOf j), .int .u8 3, .string (nmOf j), .int .i64 1080, .int .u8 1, .string ⟨#[]⟩, .string ⟨#[]⟩, .int .i64 0] 71)) = .ok (.slice A' (j + 1) c') W') := ⟨hr⟩
      have hnm : nmOf j = ByteArray.extract ⟨#[97, 98, 99, 100, 101, 102, 103, 104, 105, 106, 107, 108, 109, 110, 111, 112]⟩ j (j + 1) := rfl
      rw [hnm] at HR
      clear hc ho hdr hwd ho2 hr ho3 hg hal far h9 hnm
      go_wp2_with fail
      go_region_law (refine step_append_eq rfl _ _ 25 25 rfl rfl (by simp [Act.eval]) (by simp [Act.eval]) HR.out ?_)
      all_goals
        clear HR f13 d13 c13 hwj hj16 hjt hj0 hjj
        generalize W'.setCell ⟨w.heap.size + 1, 13, none⟩ (.slice A' (j + 1) c') = w8 at *
        go_wp2_with fail
        go_roundw
        case rel => exact ⟨j + 1, by omega, by first | rfl | simp, HN⟩
        case measure => simp [intOf]; omega
    · obtain rfl : j = n := by omega
      obtain ⟨A, c, hc, ho⟩ := hI.out.ex
      have f0 := fun i => hI.out.b0.frozen i
      have hb := hI.out.below
      have k0 := hc.cell 0
      have k1 := hc.cell 1
      have k2 := hc.cell 2
      have k3 := hc.cell 3
      have k4 := hc.cell 4
      have k5 := hc.cell 5
      have k6 := hc.cell 6
      have k7 := hc.cell 7
      have k8 := hc.cell 8
      have k9 := hc.cell 9
      have k10 := hc.cell 10
      have k11 := hc.cell 11
      have k12 := hc.cell 12
      have k13 := hc.cell 13
      have k14 := hc.cell 14
      have k15 := hc.cell 15
      simp at k0 k1 k2 k3 k4 k5 k6 k7 k8 k9 k10 k11 k12 k13 k14 k15
      have z0 := hI.out.b0.cell 0
      have z1 := hI.out.b0.cell 1
      have z2 := hI.out.b0.cell 2
      have z3 := hI.out.b0.cell 3
      have z4 := hI.out.b0.cell 4
      have z5 := hI.out.b0.cell 5
      have z6 := hI.out.b0.cell 6
      have z7 := hI.out.b0.cell 7
      have z8 := hI.out.b0.cell 8
      have z9 := hI.out.b0.cell 9
      have z10 := hI.out.b0.cell 10
      have z11 := hI.out.b0.cell 11
      have z12 := hI.out.b0.cell 12
      have z13 := hI.out.b0.cell 13
      have z14 := hI.out.b0.cell 14
      have z15 := hI.out.b0.cell 15
      simp at z0 z1 z2 z3 z4 z5 z6 z7 z8 z9 z10 z11 z12 z13 z14 z15
      go_wp2_with fail
      have l0 : Lies (wr.setCell ⟨w.heap.size, 0, none⟩ (.string ⟨#[]⟩)) w.heap.size 29 #[.string ⟨#[]⟩, .int .i64 0, .int .i64 0, .int .i64 0, .int .i64 0, .int .i64 0, .int .i64 0, .int .i64 0, .int .i64 0, .int .i64 0, .int .i64 0, .int .i64 0, .slice none 0 0, .slice none 0 0, .slice none 0 0, .slice none 0 0] := hI.out.b0.set 0 _
      have l1 : Lies ((wr.setCell ⟨w.heap.size, 0, none⟩ (.string ⟨#[]⟩)).setCell ⟨w.heap.size, 1, none⟩ (.int .i64 0)) w.heap.size 29 #[.string ⟨#[]⟩, .int .i64 0, .int .i64 0, .int .i64 0, .int .i64 0, .int .i64 0, .int .i64 0, .int .i64 0, .int .i64 0, .int .i64 0, .int .i64 0, .int .i64 0, .slice none 0 0, .slice none 0 0, .slice none 0 0, .slice none 0 0] := l0.set 1 _
      have l2 : Lies (((wr.setCell ⟨w.heap.size, 0, none⟩ (.string ⟨#[]⟩)).setCell ⟨w.heap.size, 1, none⟩ (.int .i64 0)).setCell ⟨w.heap.size, 2, none⟩ (.int .i64 0)) w.heap.size 29 #[.string ⟨#[]⟩, .int .i64 0, .int .i64 0, .int .i64 0, .int .i64 0, .int .i64 0, .int .i64 0, .int .i64 0, .int .i64 0, .int .i64 0, .int .i64 0, .int .i64 0, .slice none 0 0, .slice none 0 0, .slice none 0 0, .slice none 0 0] := l1.set 2 _
      have l3 : Lies ((((wr.setCell ⟨w.heap.size, 0, none⟩ (.string ⟨#[]⟩)).setCell ⟨w.heap.size, 1, none⟩ (.int .i64 0)).setCell ⟨w.heap.size, 2, none⟩ (.int .i64 0)).setCell ⟨w.heap.size, 3, none⟩ (.int .i64 0)) w.heap.size 29 #[.string ⟨#[]⟩, .int .i64 0, .int .i64 0, .int .i64 0, .int .i64 0, .int .i64 0, .int .i64 0, .int .i64 0, .int .i64 0, .int .i64 0, .int .i64 0, .int .i64 0, .slice none 0 0, .slice none 0 0, .slice none 0 0, .slice none 0 0] := l2.set 3 _
      have l4 : Lies (((((wr.setCell ⟨w.heap.size, 0, none⟩ (.string ⟨#[]⟩)).setCell ⟨w.heap.size, 1, none⟩ (.int .i64 0)).setCell ⟨w.heap.size, 2, none⟩ (.int .i64 0)).setCell ⟨w.heap.size, 3, none⟩ (.int .i64 0)).setCell ⟨w.heap.size, 4, none⟩ (.int .i64 0)) w.heap.size 29 #[.string ⟨#[]⟩, .int .i64 0, .int .i64 0, .int .i64 0, .int .i64 0, .int .i64 0, .int .i64 0, .int .i64 0, .int .i64 0, .int .i64 0, .int .i64 0, .int .i64 0, .slice none 0 0, .slice none 0 0, .slice none 0 0, .slice none 0 0] := l3.set 4 _
      have l5 : Lies ((((((wr.setCell ⟨w.heap.size, 0, none⟩ (.string ⟨#[]⟩)).setCell ⟨w.heap.size, 1, none⟩ (.int .i64 0)).setCell ⟨w.heap.size, 2, none⟩ (.int .i64 0)).setCell ⟨w.heap.size, 3, none⟩ (.int .i64 0)).setCell ⟨w.heap.size, 4, none⟩ (.int .i64 0)).setCell ⟨w.heap.size, 5, none⟩ (.int .i64 0)) w.heap.size 29 #[.string ⟨#[]⟩, .int .i64 0, .int .i64 0, .int .i64 0, .int .i64 0, .int .i64 0, .int .i64 0, .int .i64 0, .int .i64 0, .int .i64 0, .int .i64 0, .int .i64 0, .slice none 0 0, .slice none 0 0, .slice none 0 0, .slice none 0 0] := l4.set 5 _
      have l6 : Lies (((((((wr.setCell ⟨w.heap.size, 0, none⟩ (.string ⟨#[]⟩)).setCell ⟨w.heap.size, 1, none⟩ (.int .i64 0)).setCell ⟨w.heap.size, 2, none⟩ (.int .i64 0)).setCell ⟨w.heap.size, 3, none⟩ (.int .i64 0)).setCell ⟨w.heap.size, 4, none⟩ (.int .i64 0)).setCell ⟨w.heap.size, 5, none⟩ (.int .i64 0)).setCell ⟨w.heap.size, 6, none⟩ (.int .i64 0)) w.heap.size 29 #[.string ⟨#[]⟩, .int .i64 0, .int .i64 0, .int .i64 0, .int .i64 0, .int .i64 0, .int .i64 0, .int .i64 0, .int .i64 0, .int .i64 0, .int .i64 0, .int .i64 0, .slice none 0 0, .slice none 0 0, .slice none 0 0, .slice none 0 0] := l5.set 6 _
      have l7 : Lies ((((((((wr.setCell ⟨w.heap.size, 0, none⟩ (.string ⟨#[]⟩)).setCell ⟨w.heap.size, 1, none⟩ (.int .i64 0)).setCell ⟨w.heap.size, 2, none⟩ (.int .i64 0)).setCell ⟨w.heap.size, 3, none⟩ (.int .i64 0)).setCell ⟨w.heap.size, 4, none⟩ (.int .i64 0)).setCell ⟨w.heap.size, 5, none⟩ (.int .i64 0)).setCell ⟨w.heap.size, 6, none⟩ (.int .i64 0)).setCell ⟨w.heap.size, 7, none⟩ (.int .i64 0)) w.heap.size 29 #[.string ⟨#[]⟩, .int .i64 0, .int .i64 0, .int .i64 0, .int .i64 0, .int .i64 0, .int .i64 0, .int .i64 0, .int .i64 0, .int .i64 0, .int .i64 0, .int .i64 0, .slice none 0 0, .slice none 0 0, .slice none 0 0, .slice none 0 0] := l6.set 7 _
      have l8 : Lies (((((((((wr.setCell ⟨w.heap.size, 0, none⟩ (.string ⟨#[]⟩)).setCell ⟨w.heap.size, 1, none⟩ (.int .i64 0)).setCell ⟨w.heap.size, 2, none⟩ (.int .i64 0)).setCell ⟨w.heap.size, 3, none⟩ (.int .i64 0)).setCell ⟨w.heap.size, 4, none⟩ (.int .i64 0)).setCell ⟨w.heap.size, 5, none⟩ (.int .i64 0)).setCell ⟨w.heap.size, 6, none⟩ (.int .i64 0)).setCell ⟨w.heap.size, 7, none⟩ (.int .i64 0)).setCell ⟨w.heap.size, 8, none⟩ (.int .i64 0)) w.heap.size 29 #[.string ⟨#[]⟩, .int .i64 0, .int .i64 0, .int .i64 0, .int .i64 0, .int .i64 0, .int .i64 0, .int .i64 0, .int .i64 0, .int .i64 0, .int .i64 0, .int .i64 0, .slice none 0 0, .slice none 0 0, .slice none 0 0, .slice none 0 0] := l7.set 8 _
      have l9 : Lies ((((((((((wr.setCell ⟨w.heap.size, 0, none⟩ (.string ⟨#[]⟩)).setCell ⟨w.heap.size, 1, none⟩ (.int .i64 0)).setCell ⟨w.heap.size, 2, none⟩ (.int .i64 0)).setCell ⟨w.heap.size, 3, none⟩ (.int .i64 0)).setCell ⟨w.heap.size, 4, none⟩ (.int .i64 0)).setCell ⟨w.heap.size, 5, none⟩ (.int .i64 0)).setCell ⟨w.heap.size, 6, none⟩ (.int .i64 0)).setCell ⟨w.heap.size, 7, none⟩ (.int .i64 0)).setCell ⟨w.heap.size, 8, none⟩ (.int .i64 0)).setCell ⟨w.heap.size, 9, none⟩ (.int .i64 f)) w.heap.size 29 #[.string ⟨#[]⟩, .int .i64 0, .int .i64 0, .int .i64 0, .int .i64 0, .int .i64 0, .int .i64 0, .int .i64 0, .int .i64 0, .int .i64 f, .int .i64 0, .int .i64 0, .slice none 0 0, .slice none 0 0, .slice none 0 0, .slice none 0 0] := l8.set 9 _
      have l10 : Lies (((((((((((wr.setCell ⟨w.heap.size, 0, none⟩ (.string ⟨#[]⟩)).setCell ⟨w.heap.size, 1, none⟩ (.int .i64 0)).setCell ⟨w.heap.size, 2, none⟩ (.int .i64 0)).setCell ⟨w.heap.size, 3, none⟩ (.int .i64 0)).setCell ⟨w.heap.size, 4, none⟩ (.int .i64 0)).setCell ⟨w.heap.size, 5, none⟩ (.int .i64 0)).setCell ⟨w.heap.size, 6, none⟩ (.int .i64 0)).setCell ⟨w.heap.size, 7, none⟩ (.int .i64 0)).setCell ⟨w.heap.size, 8, none⟩ (.int .i64 0)).setCell ⟨w.heap.size, 9, none⟩ (.int .i64 f)).setCell ⟨w.heap.size, 10, none⟩ (.int .i64 k)) w.heap.size 29 #[.string ⟨#[]⟩, .int .i64 0, .int .i64 0, .int .i64 0, .int .i64 0, .int .i64 0, .int .i64 0, .int .i64 0, .int .i64 0, .int .i64 f, .int .i64 k, .int .i64 0, .slice none 0 0, .slice none 0 0, .slice none 0 0, .slice none 0 0] := l9.set 10 _
      have l11 : Lies ((((((((((((wr.setCell ⟨w.heap.size, 0, none⟩ (.string ⟨#[]⟩)).setCell ⟨w.heap.size, 1, none⟩ (.int .i64 0)).setCell ⟨w.heap.size, 2, none⟩ (.int .i64 0)).setCell ⟨w.heap.size, 3, none⟩ (.int .i64 0)).setCell ⟨w.heap.size, 4, none⟩ (.int .i64 0)).setCell ⟨w.heap.size, 5, none⟩ (.int .i64 0)).setCell ⟨w.heap.size, 6, none⟩ (.int .i64 0)).setCell ⟨w.heap.size, 7, none⟩ (.int .i64 0)).setCell ⟨w.heap.size, 8, none⟩ (.int .i64 0)).setCell ⟨w.heap.size, 9, none⟩ (.int .i64 f)).setCell ⟨w.heap.size, 10, none⟩ (.int .i64 k)).setCell ⟨w.heap.size, 11, none⟩ (.int .i64 e)) w.heap.size 29 #[.string ⟨#[]⟩, .int .i64 0, .int .i64 0, .int .i64 0, .int .i64 0, .int .i64 0, .int .i64 0, .int .i64 0, .int .i64 0, .int .i64 f, .int .i64 k, .int .i64 e, .slice none 0 0, .slice none 0 0, .slice none 0 0, .slice none 0 0] := l10.set 11 _
      have l12 : Lies (((((((((((((wr.setCell ⟨w.heap.size, 0, none⟩ (.string ⟨#[]⟩)).setCell ⟨w.heap.size, 1, none⟩ (.int .i64 0)).setCell ⟨w.heap.size, 2, none⟩ (.int .i64 0)).setCell ⟨w.heap.size, 3, none⟩ (.int .i64 0)).setCell ⟨w.heap.size, 4, none⟩ (.int .i64 0)).setCell ⟨w.heap.size, 5, none⟩ (.int .i64 0)).setCell ⟨w.heap.size, 6, none⟩ (.int .i64 0)).setCell ⟨w.heap.size, 7, none⟩ (.int .i64 0)).setCell ⟨w.heap.size, 8, none⟩ (.int .i64 0)).setCell ⟨w.heap.size, 9, none⟩ (.int .i64 f)).setCell ⟨w.heap.size, 10, none⟩ (.int .i64 k)).setCell ⟨w.heap.size, 11, none⟩ (.int .i64 e)).setCell ⟨w.heap.size, 12, none⟩ (.slice none 0 0)) w.heap.size 29 #[.string ⟨#[]⟩, .int .i64 0, .int .i64 0, .int .i64 0, .int .i64 0, .int .i64 0, .int .i64 0, .int .i64 0, .int .i64 0, .int .i64 f, .int .i64 k, .int .i64 e, .slice none 0 0, .slice none 0 0, .slice none 0 0, .slice none 0 0] := l11.set 12 _
      have l13 : Lies ((((((((((((((wr.setCell ⟨w.heap.size, 0, none⟩ (.string ⟨#[]⟩)).setCell ⟨w.heap.size, 1, none⟩ (.int .i64 0)).setCell ⟨w.heap.size, 2, none⟩ (.int .i64 0)).setCell ⟨w.heap.size, 3, none⟩ (.int .i64 0)).setCell ⟨w.heap.size, 4, none⟩ (.int .i64 0)).setCell ⟨w.heap.size, 5, none⟩ (.int .i64 0)).setCell ⟨w.heap.size, 6, none⟩ (.int .i64 0)).setCell ⟨w.heap.size, 7, none⟩ (.int .i64 0)).setCell ⟨w.heap.size, 8, none⟩ (.int .i64 0)).setCell ⟨w.heap.size, 9, none⟩ (.int .i64 f)).setCell ⟨w.heap.size, 10, none⟩ (.int .i64 k)).setCell ⟨w.heap.size, 11, none⟩ (.int .i64 e)).setCell ⟨w.heap.size, 12, none⟩ (.slice none 0 0)).setCell ⟨w.heap.size, 13, none⟩ (.slice A j c)) w.heap.size 29 #[.string ⟨#[]⟩, .int .i64 0, .int .i64 0, .int .i64 0, .int .i64 0, .int .i64 0, .int .i64 0, .int .i64 0, .int .i64 0, .int .i64 f, .int .i64 k, .int .i64 e, .slice none 0 0, .slice A j c, .slice none 0 0, .slice none 0 0] := l12.set 13 _
      have l14 : Lies (((((((((((((((wr.setCell ⟨w.heap.size, 0, none⟩ (.string ⟨#[]⟩)).setCell ⟨w.heap.size, 1, none⟩ (.int .i64 0)).setCell ⟨w.heap.size, 2, none⟩ (.int .i64 0)).setCell ⟨w.heap.size, 3, none⟩ (.int .i64 0)).setCell ⟨w.heap.size, 4, none⟩ (.int .i64 0)).setCell ⟨w.heap.size, 5, none⟩ (.int .i64 0)).setCell ⟨w.heap.size, 6, none⟩ (.int .i64 0)).setCell ⟨w.heap.size, 7, none⟩ (.int .i64 0)).setCell ⟨w.heap.size, 8, none⟩ (.int .i64 0)).setCell ⟨w.heap.size, 9, none⟩ (.int .i64 f)).setCell ⟨w.heap.size, 10, none⟩ (.int .i64 k)).setCell ⟨w.heap.size, 11, none⟩ (.int .i64 e)).setCell ⟨w.heap.size, 12, none⟩ (.slice none 0 0)).setCell ⟨w.heap.size, 13, none⟩ (.slice A j c)).setCell ⟨w.heap.size, 14, none⟩ (.slice none 0 0)) w.heap.size 29 #[.string ⟨#[]⟩, .int .i64 0, .int .i64 0, .int .i64 0, .int .i64 0, .int .i64 0, .int .i64 0, .int .i64 0, .int .i64 0, .int .i64 f, .int .i64 k, .int .i64 e, .slice none 0 0, .slice A j c, .slice none 0 0, .slice none 0 0] := l13.set 14 _
      have l15 : Lies ((((((((((((((((wr.setCell ⟨w.heap.size, 0, none⟩ (.string ⟨#[]⟩)).setCell ⟨w.heap.size, 1, none⟩ (.int .i64 0)).setCell ⟨w.heap.size, 2, none⟩ (.int .i64 0)).setCell ⟨w.heap.size, 3, none⟩ (.int .i64 0)).setCell ⟨w.heap.size, 4, none⟩ (.int .i64 0)).setCell ⟨w.heap.size, 5, none⟩ (.int .i64 0)).setCell ⟨w.heap.size, 6, none⟩ (.int .i64 0)).setCell ⟨w.heap.size, 7, none⟩ (.int .i64 0)).setCell ⟨w.heap.size, 8, none⟩ (.int .i64 0)).setCell ⟨w.heap.size, 9, none⟩ (.int .i64 f)).setCell ⟨w.heap.size, 10, none⟩ (.int .i64 k)).setCell ⟨w.heap.size, 11, none⟩ (.int .i64 e)).setCell ⟨w.heap.size, 12, none⟩ (.slice none 0 0)).setCell ⟨w.heap.size, 13, none⟩ (.slice A j c)).setCell ⟨w.heap.size, 14, none⟩ (.slice none 0 0)).setCell ⟨w.heap.size, 15, none⟩ (.slice none 0 0)) w.heap.size 29 #[.string ⟨#[]⟩, .int .i64 0, .int .i64 0, .int .i64 0, .int .i64 0, .int .i64 0, .int .i64 0, .int .i64 0, .int .i64 0, .int .i64 f, .int .i64 k, .int .i64 e, .slice none 0 0, .slice A j c, .slice none 0 0, .slice none 0 0] := l14.set 15 _
      have hL := l15
      have hKT : Keep wr.heap.size (fun g => g = w.heap.size) wr ((((((((((((((((wr.setCell ⟨w.heap.size, 0, none⟩ (.string ⟨#[]⟩)).setCell ⟨w.heap.size, 1, none⟩ (.int .i64 0)).setCell ⟨w.heap.size, 2, none⟩ (.int .i64 0)).setCell ⟨w.heap.size, 3, none⟩ (.int .i64 0)).setCell ⟨w.heap.size, 4, none⟩ (.int .i64 0)).setCell ⟨w.heap.size, 5, none⟩ (.int .i64 0)).setCell ⟨w.heap.size, 6, none⟩ (.int .i64 0)).setCell ⟨w.heap.size, 7, none⟩ (.int .i64 0)).setCell ⟨w.heap.size, 8, none⟩ (.int .i64 0)).setCell ⟨w.heap.size, 9, none⟩ (.int .i64 f)).setCell ⟨w.heap.size, 10, none⟩ (.int .i64 k)).setCell ⟨w.heap.size, 11, none⟩ (.int .i64 e)).setCell ⟨w.heap.size, 12, none⟩ (.slice none 0 0)).setCell ⟨w.heap.size, 13, none⟩ (.slice A j c)).setCell ⟨w.heap.size, 14, none⟩ (.slice none 0 0)).setCell ⟨w.heap.size, 15, none⟩ (.slice none 0 0)) := (((((((((((((((((Keep.refl wr.heap.size (fun g => g = w.heap.size) wr).setCell (p := ⟨w.heap.size, 0, none⟩) (.inr rfl) _).setCell (p := ⟨w.heap.size, 1, none⟩) (.inr rfl) _).setCell (p := ⟨w.heap.size, 2, none⟩) (.inr rfl) _).setCell (p := ⟨w.heap.size, 3, none⟩) (.inr rfl) _).setCell (p := ⟨w.heap.size, 4, none⟩) (.inr rfl) _).setCell (p := ⟨w.heap.size, 5, none⟩) (.inr rfl) _).setCell (p := ⟨w.heap.size, 6, none⟩) (.inr rfl) _).setCell (p := ⟨w.heap.size, 7, none⟩) (.inr rfl) _).setCell (p := ⟨w.heap.size, 8, none⟩) (.inr rfl) _).setCell (p := ⟨w.heap.size, 9, none⟩) (.inr rfl) _).setCell (p := ⟨w.heap.size, 10, none⟩) (.inr rfl) _).setCell (p := ⟨w.heap.size, 11, none⟩) (.inr rfl) _).setCell (p := ⟨w.heap.size, 12, none⟩) (.inr rfl) _).setCell (p := ⟨w.heap.size, 13, none⟩) (.inr rfl) _).setCell (p := ⟨w.heap.size, 14, none⟩) (.inr rfl) _).setCell (p := ⟨w.heap.size, 15, none⟩) (.inr rfl) _)
      have hK : Keep w.heap.size (fun _ => False) w ((((((((((((((((wr.setCell ⟨w.heap.size, 0, none⟩ (.string ⟨#[]⟩)).setCell ⟨w.heap.size, 1, none⟩ (.int .i64 0)).setCell ⟨w.heap.size, 2, none⟩ (.int .i64 0)).setCell ⟨w.heap.size, 3, none⟩ (.int .i64 0)).setCell ⟨w.heap.size, 4, none⟩ (.int .i64 0)).setCell ⟨w.heap.size, 5, none⟩ (.int .i64 0)).setCell ⟨w.heap.size, 6, none⟩ (.int .i64 0)).setCell ⟨w.heap.size, 7, none⟩ (.int .i64 0)).setCell ⟨w.heap.size, 8, none⟩ (.int .i64 0)).setCell ⟨w.heap.size, 9, none⟩ (.int .i64 f)).setCell ⟨w.heap.size, 10, none⟩ (.int .i64 k)).setCell ⟨w.heap.size, 11, none⟩ (.int .i64 e)).setCell ⟨w.heap.size, 12, none⟩ (.slice none 0 0)).setCell ⟨w.heap.size, 13, none⟩ (.slice A j c)).setCell ⟨w.heap.size, 14, none⟩ (.slice none 0 0)).setCell ⟨w.heap.size, 15, none⟩ (.slice none 0 0)) := (Keep.of_below hb (fun _ => False)).trans ⟨hKT.os, hKT.tape, hKT.output, hKT.size, fun g hg _ => hKT.block g (by have := hb.size; omega) (by omega)⟩
      have hO : OwnP w ((((((((((((((((wr.setCell ⟨w.heap.size, 0, none⟩ (.string ⟨#[]⟩)).setCell ⟨w.heap.size, 1, none⟩ (.int .i64 0)).setCell ⟨w.heap.size, 2, none⟩ (.int .i64 0)).setCell ⟨w.heap.size, 3, none⟩ (.int .i64 0)).setCell ⟨w.heap.size, 4, none⟩ (.int .i64 0)).setCell ⟨w.heap.size, 5, none⟩ (.int .i64 0)).setCell ⟨w.heap.size, 6, none⟩ (.int .i64 0)).setCell ⟨w.heap.size, 7, none⟩ (.int .i64 0)).setCell ⟨w.heap.size, 8, none⟩ (.int .i64 0)).setCell ⟨w.heap.size, 9, none⟩ (.int .i64 f)).setCell ⟨w.heap.size, 10, none⟩ (.int .i64 k)).setCell ⟨w.heap.size, 11, none⟩ (.int .i64 e)).setCell ⟨w.heap.size, 12, none⟩ (.slice none 0 0)).setCell ⟨w.heap.size, 13, none⟩ (.slice A j c)).setCell ⟨w.heap.size, 14, none⟩ (.slice none 0 0)).setCell ⟨w.heap.size, 15, none⟩ (.slice none 0 0)) A c (pasOf j) := by
        refine wn.rown_same ho fun g e0 => ?_
        obtain ⟨_, cur, hcur⟩ := pl.own_cell ho e0
        have hne : g ≠ w.heap.size := fun e1 => by rw [e1] at hcur; exact absurd (hI.out.b0.inj hcur).1 (by decide)
        exact hKT.block g (wn.rown_lt ho e0).2 hne
      generalize ((((((((((((((((wr.setCell ⟨w.heap.size, 0, none⟩ (.string ⟨#[]⟩)).setCell ⟨w.heap.size, 1, none⟩ (.int .i64 0)).setCell ⟨w.heap.size, 2, none⟩ (.int .i64 0)).setCell ⟨w.heap.size, 3, none⟩ (.int .i64 0)).setCell ⟨w.heap.size, 4, none⟩ (.int .i64 0)).setCell ⟨w.heap.size, 5, none⟩ (.int .i64 0)).setCell ⟨w.heap.size, 6, none⟩ (.int .i64 0)).setCell ⟨w.heap.size, 7, none⟩ (.int .i64 0)).setCell ⟨w.heap.size, 8, none⟩ (.int .i64 0)).setCell ⟨w.heap.size, 9, none⟩ (.int .i64 f)).setCell ⟨w.heap.size, 10, none⟩ (.int .i64 k)).setCell ⟨w.heap.size, 11, none⟩ (.int .i64 e)).setCell ⟨w.heap.size, 12, none⟩ (.slice none 0 0)).setCell ⟨w.heap.size, 13, none⟩ (.slice A j c)).setCell ⟨w.heap.size, 14, none⟩ (.slice none 0 0)).setCell ⟨w.heap.size, 15, none⟩ (.slice none 0 0)) = w9 at *
      have m0 := hL.cell 0
      have m1 := hL.cell 1
      have m2 := hL.cell 2
      have m3 := hL.cell 3
      have m4 := hL.cell 4
      have m5 := hL.cell 5
      have m6 := hL.cell 6
      have m7 := hL.cell 7
      have m8 := hL.cell 8
      have m9 := hL.cell 9
      have m10 := hL.cell 10
      have m11 := hL.cell 11
      have m12 := hL.cell 12
      have m13 := hL.cell 13
      have m14 := hL.cell 14
      have m15 := hL.cell 15
      simp at m0 m1 m2 m3 m4 m5 m6 m7 m8 m9 m10 m11 m12 m13 m14 m15
      have e9 : (pasOf j).length = j := pasOf_len j
      refine bodyPost_ret (v := .agg (ccs f k e (.slice A j c))) (by simp [results, Try.results21, go_sem, m0, m1, m2, m3, m4, m5, m6, m7, m8, m9, m10, m11, m12, m13, m14, m15]) rfl ⟨⟨A, c, ?_, ?_, ?_⟩, hK.below (Nat.le_refl _) (fun _ _ hf => hf)⟩
      · unfold CfD.v cfOf
        simp only [e9]
      · exact (pas_of_own hO).weak fun g hg => ⟨hg.1, hg.2.1⟩
      · have := hO.cap; omega
theorem of_any (n : Nat) (f k e : Int) (w : World) (hn : n ≤ 16) : Calls Try.prog 21 #[.int .i64 (n : Int), .int .i64 f, .int .i64 k, .int .i64 e] w (OfPost n f k e w) :=
  (of_any2 n f k e w hn).mono fun _ _ h => by
    obtain ⟨A, c, he, hp, _⟩ := h.ex
    exact ⟨⟨A, c, he, hp⟩, h.below⟩
end Go.Proofs.Ytpidjekabnnmcaa.hp
