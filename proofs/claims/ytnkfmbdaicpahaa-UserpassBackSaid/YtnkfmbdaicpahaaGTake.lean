/-
  Given for the seat's laws: the contracts of the program's Take and TakeAnswer. No condition but those of the theorems.
-/
import Derived.Test.YtnkfmbdaicpahaaGNext
namespace Go.Proofs.Ytnkfmbdaicpahaa.gr
open Go.RowKit mem
set_option linter.unusedVariables false

def agg (x : Str × Str × Nat × Nat) : Value := .agg #[.string (S x.1), .string (S x.2.1), .int .i64 (x.2.2.1 : Int)]
def credv (x : Str × Str × Nat × Nat) : Value := .tuple #[agg x, .int .i64 (x.2.2.2 : Int)]
theorem held_new {w : World} {ok : Nat → Prop} {A : Option Addr} {n c : Nat} {r : Str} (hs : Spell w ok A n c (1 :: r)) (hok : ∀ g, ok g → g < w.heap.size) {W : World}
    (hW : W = (((w.alloc (.cells #[.slice A n c] 22)).alloc (.cells #[.string ⟨#[]⟩, .string ⟨#[]⟩, .int .i64 0] 43)).alloc (.cells #[.int .i64 1] 3))) :
    Held W ok A n c 1 w.heap.size (w.heap.size + 1 + 1) (1 :: r) ∧ Lies W (w.heap.size + 1) 43 #[.string ⟨#[]⟩, .string ⟨#[]⟩, .int .i64 0] ∧ Below w.heap.size w W ∧ w.heap.size + 1 + 1 < W.heap.size := by
  subst hW
  have hn := spell_len hs
  have h1 := Lies.new w 22 #[.slice A n c]
  have h2 := Lies.new (w.alloc (.cells #[.slice A n c] 22)) 43 #[.string ⟨#[]⟩, .string ⟨#[]⟩, .int .i64 0]
  have h3 := Lies.new ((w.alloc (.cells #[.slice A n c] 22)).alloc (.cells #[.string ⟨#[]⟩, .string ⟨#[]⟩, .int .i64 0] 43)) 3 #[.int .i64 1]
  have z1 : (w.alloc (.cells #[.slice A n c] 22)).heap.size = w.heap.size + 1 := by simp
  have z2 : ((w.alloc (.cells #[.slice A n c] 22)).alloc (.cells #[.string ⟨#[]⟩, .string ⟨#[]⟩, .int .i64 0] 43)).heap.size = w.heap.size + 1 + 1 := by simp
  rw [z1] at h2
  rw [z2] at h3
  have hb : Below w.heap.size w (((w.alloc (.cells #[.slice A n c] 22)).alloc (.cells #[.string ⟨#[]⟩, .string ⟨#[]⟩, .int .i64 0] 43)).alloc (.cells #[.int .i64 1] 3)) :=
    (((Below.refl _ _).alloc (Nat.le_refl _) _).alloc (by simp) _).alloc (by simp; omega) _
  refine ⟨⟨hs.below hb hok, ?_, ?_, h3.frozen 0, by rw [← hn]; simp, by omega, fun g hg => by have := hok g hg; omega⟩, h2.alloc _, hb, by simp⟩
  · rw [((h1.alloc _).alloc _).cell]; rfl
  · rw [h3.cell]; rfl

theorem results_cred {W : World} {h : Nat} {x y z : Value} (c0 : W.cell? ⟨h, 0, none⟩ = some x) (c1 : W.cell? ⟨h, 1, none⟩ = some y) (c2 : W.cell? ⟨h, 2, none⟩ = some z) (tmps : Array Value) (h2 : tmps[2]?.getD undef = .pointer (some ⟨h, 0, none⟩)) {v3 : Value} (h3 : tmps[3]?.getD undef = v3) :
    (results Try.f16 tmps).run Try.prog W = .ok (.tuple #[.agg #[x, y, z], v3]) W := by
  simp [results, Try.results16, go_sem, h2, h3, c0, c1, c2]

set_option maxHeartbeats 2000000 in
set_option maxRecDepth 100000 in
theorem cred_bad {w : World} {ok : Nat → Prop} {A : Option Addr} {n c : Nat} {b : Str} (hs : Spell w ok A n c b) (hok : ∀ g, ok g → g < w.heap.size) {q : Nat} (hv : vs b = (0, q)) (hq : q ≠ 0) : Calls Try.prog 16 #[.slice A n c] w (Gives (credv ([], [], 0, q)) w) := by
  have HV := Bx.mk (@vers_any)
  have HC := Bx.mk (failC_any)
  have HS := Bx.mk hs
  have HO := Bx.mk hok
  have hq' : ((q : Int) != 0) = true := by simp; omega
  clear hs hq hok
  go_enter Try.func16, Try.ntmps16
  go_wp2_with fail
  refine (HV.out (HS.out.below (B := w.heap.size) (((Below.refl _ _).alloc (by simp) _).alloc (by simp) _) HO.out)).mono ?_
  rintro e w2 ⟨rfl, rfl⟩
  rw [hv]
  go_wp2_with fail
  refine (HC.out _ _).mono ?_
  rintro e w3 ⟨rfl, hb⟩
  have hb3 := hb.mono (B' := w.heap.size) (by simp; omega)
  have L : Lies w3 (w.heap.size + 1) 43 #[.string ⟨#[]⟩, .string ⟨#[]⟩, .int .i64 0] := by
    have h2 := Lies.new (w.alloc (.cells #[.slice A n c] 22)) 43 #[.string ⟨#[]⟩, .string ⟨#[]⟩, .int .i64 0]
    rw [show (w.alloc (.cells #[.slice A n c] 22)).heap.size = w.heap.size + 1 by simp] at h2
    exact (h2.alloc _).below hb (by simp)
  have G := Bx.mk (((((Below.refl _ w).alloc (Nat.le_refl _) (.cells #[.slice A n c] 22)).alloc (by simp) (.cells #[.string ⟨#[]⟩, .string ⟨#[]⟩, .int .i64 0] 43)).alloc (by simp; omega) (.cells #[.int .i64 0] 3)).trans hb3)
  have c0 := L.cell 0; have c1 := L.cell 1; have c2 := L.cell 2
  have f0 := L.frozen 0; have f1 := L.frozen 1; have f2 := L.frozen 2
  simp at c0 c1 c2
  clear hb hb3 L
  go_wp2_with fail
  refine bodyPost_ret (v := credv ([], [], 0, q)) (by simp [results, Try.results16, go_sem, c0, c1, c2, credv, agg, S]) rfl ⟨rfl, ?_⟩
  repeat (first | exact G.out | refine Below.setCell ?_ (by simp) _)

theorem cell_set_same {W : World} {g : Nat} {u : Value} (h : W.cell? ⟨g, 0, none⟩ = some u) (v : Value) : (W.setCell ⟨g, 0, none⟩ v).cell? ⟨g, 0, none⟩ = some v := by
  simp [go_sem, h]
theorem frozen_set {W : World} {g : Nat} (h : W.frozen? ⟨g, 0, none⟩ = false) (p : Addr) (v : Value) : (W.setCell p v).frozen? ⟨g, 0, none⟩ = false := by
  simp [go_sem, h]
theorem tk_more {r : Str} (h : nx r = .more) : tk (1 :: r) = ([], [], 0, 5) := by show tk.tk1 (nx r) = _; rw [h]; rfl
theorem tk_form {r : Str} (h : nx r = .form) : tk (1 :: r) = ([], [], 0, 6) := by show tk.tk1 (nx r) = _; rw [h]; rfl
theorem tk_got {r u q : Str} (h : nx r = .got u q) : tk (1 :: r) = tk.tk2 u (nx q) := by show tk.tk1 (nx r) = _; rw [h]; rfl
theorem err_end {h : Nat} {w W w3 : World} {x y z : Value} (q : Nat) (hw : h < W.heap.size) (hh : w.heap.size ≤ h) (L : Lies W h 43 #[x, y, z]) (hb : Below W.heap.size W w3) (hB : Below w.heap.size w W) :
    Lies w3 h 43 #[x, y, z] ∧ Below w.heap.size w w3 := ⟨L.below hb hw, hB.trans (hb.mono hB.size)⟩
set_option maxHeartbeats 4000000 in
set_option maxRecDepth 100000 in
theorem cred_one {w : World} {ok : Nat → Prop} {A : Option Addr} {n c : Nat} {r : Str} (hs : Spell w ok A n c (1 :: r)) (hok : ∀ g, ok g → g < w.heap.size) (hn : n ≤ 100000) : Calls Try.prog 16 #[.slice A n c] w (Gives (credv (tk (1 :: r))) w) := by
  have HV := Bx.mk (@vers_any)
  have HC := Bx.mk (failC_any)
  have HN := Bx.mk (@next_any)
  have HS := Bx.mk hs
  have HO := Bx.mk hok
  have HM := Bx.mk hn
  have HH := Bx.mk (@held_new w ok A n c r hs hok)
  have K1 := Bx.mk (@tk_more r)
  have K2 := Bx.mk (@tk_form r)
  have K3 := Bx.mk (@tk_got r)
  clear hs hok hn
  generalize tk (1 :: r) = X at *
  go_enter Try.func16, Try.ntmps16
  go_wp2_with fail
  refine (HV.out (HS.out.below (B := w.heap.size) (((Below.refl _ _).alloc (by simp) _).alloc (by simp) _) HO.out)).mono ?_
  rintro e w2 ⟨rfl, rfl⟩
  simp only [vs, if_true]
  go_wp2_with fail
  obtain ⟨W, hW⟩ : ∃ W, W = (((w.alloc (.cells #[.slice A n c] 22)).alloc (.cells #[.string ⟨#[]⟩, .string ⟨#[]⟩, .int .i64 0] 43)).alloc (.cells #[.int .i64 1] 3)) := ⟨_, rfl⟩
  obtain ⟨H1, L, B, hwz⟩ := HH.out hW
  rw [← hW]
  clear hW HH HV
  have HL := Bx.mk L
  have HB := Bx.mk B
  have HD := Bx.mk H1
  have hwz2 : w.heap.size + 1 < W.heap.size := by omega
  clear L B
  refine (HN.out H1 HM.out).mono ?_
  clear H1
  intro e w2 hq
  have e1 : (1 :: r).drop 1 = r := rfl
  rw [e1] at hq
  clear e1
  cases hx : nx r with
  | more =>
    rw [hx] at hq
    obtain ⟨rfl, rfl⟩ := hq
    obtain rfl := K1.out hx
    go_wp2_with fail
    refine (HC.out _ _).mono ?_
    rintro e w3 ⟨rfl, hb⟩
    obtain ⟨L, B⟩ := err_end 0 hwz2 (by omega) HL.out hb HB.out
    have G := Bx.mk B
    have c0 := L.cell 0; have c1 := L.cell 1; have c2 := L.cell 2
    have f0 := L.frozen 0; have f1 := L.frozen 1; have f2 := L.frozen 2
    simp at c0 c1 c2
    clear hb B L
    go_wp2_with fail
    refine bodyPost_ret (v := credv ([], [], 0, 5)) (by simp [results, Try.results16, go_sem, c0, c1, c2, credv, agg, S]) rfl ⟨rfl, ?_⟩
    repeat (first | exact G.out | refine Below.setCell ?_ (by simp) _)
  | form =>
    rw [hx] at hq
    obtain ⟨rfl, rfl⟩ := hq
    obtain rfl := K2.out hx
    go_wp2_with fail
    refine (HC.out _ _).mono ?_
    rintro e w3 ⟨rfl, hb⟩
    obtain ⟨L, B⟩ := err_end 0 hwz2 (by omega) HL.out hb HB.out
    have G := Bx.mk B
    have c0 := L.cell 0; have c1 := L.cell 1; have c2 := L.cell 2
    have f0 := L.frozen 0; have f1 := L.frozen 1; have f2 := L.frozen 2
    simp at c0 c1 c2
    clear hb B L
    go_wp2_with fail
    refine bodyPost_ret (v := credv ([], [], 0, 6)) (by simp [results, Try.results16, go_sem, c0, c1, c2, credv, agg, S]) rfl ⟨rfl, ?_⟩
    repeat (first | exact G.out | refine Below.setCell ?_ (by simp) _)
  | got t q =>
    rw [hx] at hq
    obtain ⟨rfl, hw2⟩ := hq
    have e2 := K3.out hx
    obtain ⟨ht, hr⟩ := nx_inv hx
    clear K1 K2 K3 hx
    have hd := HD.out
    have hin : 1 + 1 + t.length ≤ n := by
      have := spell_len hd.sp
      rw [hr] at this
      simp at this
      omega
    have hd2 : Held w2 ok A n c (1 + 1 + t.length) w.heap.size (w.heap.size + 1 + 1) (1 :: r) := by
      subst hw2
      refine ⟨hd.sp.keep fun g hg => Below.heap_setCell _ _ _ _ (hd.far g hg), ?_, ?_, ?_, hin, hd.apart, hd.far⟩
      · rw [World.cell?_of_block (Below.heap_setCell _ _ _ _ hd.apart)]; exact hd.cb
      · have h1 : World.cell? W ⟨w.heap.size + 1 + 1, 0, none⟩ = some _ := hd.cn
        exact cell_set_same h1 _
      · exact frozen_set hd.fn _ _
    have HL2 : Bx (Lies w2 (w.heap.size + 1) 43 #[.string ⟨#[]⟩, .string ⟨#[]⟩, .int .i64 0]) := by
      subst hw2
      exact ⟨HL.out.far (p := ⟨w.heap.size + 1 + 1, 0, none⟩) (by simp) _⟩
    have HB2 : Bx (Below w.heap.size w w2) := by subst hw2; exact ⟨HB.out.setCell (by simp; omega) _⟩
    have hz2 : w.heap.size + 1 < w2.heap.size := by subst hw2; simpa [World.setCell] using hwz2
    have hdr : (1 :: r).drop (1 + 1 + t.length) = q := by
      rw [hr, show 1 :: (ln t :: t ++ q) = (1 :: ln t :: t) ++ q from rfl]
      exact List.drop_left' (by simp; omega)
    have HD2 := Bx.mk hd2
    clear HL HB HD hd hd2 hw2 hin hr hwz hwz2 W
    go_wp2_with fail
    refine (HN.out HD2.out HM.out).mono ?_
    intro e w4 hq
    rw [hdr] at hq
    clear hdr HN
    cases hy : nx q with
    | more =>
      rw [hy] at hq e2
      obtain ⟨rfl, rfl⟩ := hq
      obtain rfl : X = ([], [], 0, 5) := e2
      go_wp2_with fail
      refine (HC.out _ _).mono ?_
      rintro e w3 ⟨rfl, hb⟩
      obtain ⟨L, B⟩ := err_end 0 hz2 (by omega) HL2.out hb HB2.out
      have G := Bx.mk B
      have c0 := L.cell 0; have c1 := L.cell 1; have c2 := L.cell 2
      have f0 := L.frozen 0; have f1 := L.frozen 1; have f2 := L.frozen 2
      simp at c0 c1 c2
      clear hb B L
      go_wp2_with fail
      refine bodyPost_ret (v := credv ([], [], 0, 5)) (by simp [results, Try.results16, go_sem, c0, c1, c2, credv, agg, S]) rfl ⟨rfl, ?_⟩
      repeat (first | exact G.out | refine Below.setCell ?_ (by simp) _)
    | form =>
      rw [hy] at hq e2
      obtain ⟨rfl, rfl⟩ := hq
      obtain rfl : X = ([], [], 0, 6) := e2
      go_wp2_with fail
      refine (HC.out _ _).mono ?_
      rintro e w3 ⟨rfl, hb⟩
      obtain ⟨L, B⟩ := err_end 0 hz2 (by omega) HL2.out hb HB2.out
      have G := Bx.mk B
      have c0 := L.cell 0; have c1 := L.cell 1; have c2 := L.cell 2
      have f0 := L.frozen 0; have f1 := L.frozen 1; have f2 := L.frozen 2
      simp at c0 c1 c2
      clear hb B L
      go_wp2_with fail
      refine bodyPost_ret (v := credv ([], [], 0, 6)) (by simp [results, Try.results16, go_sem, c0, c1, c2, credv, agg, S]) rfl ⟨rfl, ?_⟩
      repeat (first | exact G.out | refine Below.setCell ?_ (by simp) _)
    | got p q2 =>
      rw [hy] at hq e2
      obtain ⟨rfl, hw4⟩ := hq
      obtain rfl : X = (t, p, 3 + t.length + p.length, 0) := e2
      have hcn : w4.cell? ⟨w.heap.size + 1 + 1, 0, none⟩ = some (.int .i64 ((1 + 1 + t.length + 1 + p.length : Nat) : Int)) := by
        subst hw4
        exact cell_set_same HD2.out.cn _
      have L : Lies w4 (w.heap.size + 1) 43 #[.string ⟨#[]⟩, .string ⟨#[]⟩, .int .i64 0] := by
        subst hw4
        exact HL2.out.far (p := ⟨w.heap.size + 1 + 1, 0, none⟩) (by simp) _
      have G : Bx (Below w.heap.size w w4) := by subst hw4; exact ⟨HB2.out.setCell (by simp; omega) _⟩
      have c0 := L.cell 0; have c1 := L.cell 1; have c2 := L.cell 2
      have f0 := L.frozen 0; have f1 := L.frozen 1; have f2 := L.frozen 2
      simp at c0 c1 c2
      have hm : (1 + 1 + t.length + 1 + p.length : Nat) = 3 + t.length + p.length := by omega
      rw [hm] at hcn
      clear hw4 HL2 HB2 HD2 L hz2 w2 hy hm
      generalize 3 + t.length + p.length = m at *
      go_wp2_with fail
      refine bodyPost_ret (v := credv (t, p, m, 0)) (by simp [results, Try.results16, go_sem, c0, c1, c2, credv, agg]) rfl ⟨rfl, ?_⟩
      repeat (first | exact G.out | refine Below.setCell ?_ (by simp) _)
theorem cred_any {w : World} {ok : Nat → Prop} {A : Option Addr} {n c : Nat} {b : Str} (hs : Spell w ok A n c b) (hok : ∀ g, ok g → g < w.heap.size) (hn : n ≤ 100000) : Calls Try.prog 16 #[.slice A n c] w (Gives (credv (tk b)) w) := by
  match b with
  | [] => exact cred_bad hs hok (q := 5) rfl (by decide)
  | v :: r =>
    by_cases hv : v = 1
    · subst hv; exact cred_one hs hok hn
    · rw [show tk (v :: r) = ([], [], 0, 6) by simp [tk, hv]]
      exact cred_bad hs hok (q := 6) (by simp [vs, hv]) (by decide)

theorem below_drewN {B : Nat} {w w' : World} (h : Below B w w') (n : Nat) : Below B w (w'.drewN n) := ⟨h.os, h.tape, h.output, h.size, h.block⟩
/-- what Take gives -/
def TakeTo (x : Str × Str × Nat × Nat) (w : World) (e : Ending) (w' : World) : Prop := Gives (.tuple #[.string (S x.1), .string (S x.2.1), .int .i64 (x.2.2.1 : Int), .int .i64 (x.2.2.2 : Int)]) w e w'
set_option maxHeartbeats 2000000 in
set_option maxRecDepth 100000 in
theorem take_any {w : World} {ok : Nat → Prop} {A : Option Addr} {n c : Nat} {b : Str} (hs : Spell w ok A n c b) (hok : ∀ g, ok g → g < w.heap.size) (hn : n ≤ 100000) : Calls Try.prog 7 #[.slice A n c] w (TakeTo (tk b) w) := by
  have HC := Bx.mk (cred_any hs hok hn)
  clear hs hok hn
  generalize tk b = x at *
  obtain ⟨u, p, m, q⟩ := x
  unfold credv agg at HC
  go_enter Try.func7, Try.ntmps7
  go_wp2_with fail
  refine HC.out.mono ?_
  rintro e w2 ⟨rfl, hb⟩
  have G := Bx.mk (hb.alloc hb.size (.cells #[.string (S u), .string (S p), .int .i64 (m : Int)] 43))
  clear hb HC
  go_wp2_with fail
  go_quiet (fail)
  go_wp2_with fail
  refine bodyPost_ret (v := .tuple #[.string (S u), .string (S p), .int .i64 (m : Int), .int .i64 (q : Int)]) (by simp [results, Try.results7, go_sem]) rfl ⟨rfl, ?_⟩
  exact below_drewN G.out _

/-! ### TakeAnswer -/
def stv (x : Bool × Nat × Nat) : Value := .tuple #[.agg #[.bool x.1, .int .i64 (x.2.1 : Int)], .int .i64 (x.2.2 : Int)]
def AnsTo (x : Bool × Nat × Nat) (w : World) (e : Ending) (w' : World) : Prop := Gives (.tuple #[.bool x.1, .int .i64 (x.2.1 : Int), .int .i64 (x.2.2 : Int)]) w e w'
set_option maxHeartbeats 2000000 in
set_option maxRecDepth 100000 in
theorem stat_bad {w : World} {ok : Nat → Prop} {A : Option Addr} {n c : Nat} {b : Str} (hs : Spell w ok A n c b) (hok : ∀ g, ok g → g < w.heap.size) {q : Nat} (hv : vs b = (0, q)) (hq : q ≠ 0) : Calls Try.prog 17 #[.slice A n c] w (Gives (stv (false, 0, q)) w) := by
  have HV := Bx.mk (@vers_any)
  have HC := Bx.mk (failT_any)
  have HS := Bx.mk (hs.below (B := w.heap.size) ((Below.refl _ _).alloc (by simp) (.cells #[.bool false, .int .i64 0] 48)) hok)
  have hq' : ((q : Int) != 0) = true := by simp; omega
  clear hs hq hok
  go_enter Try.func17, Try.ntmps17
  go_wp2_with fail
  refine (HV.out HS.out).mono ?_
  rintro e w2 ⟨rfl, rfl⟩
  rw [hv]
  go_wp2_with fail
  refine (HC.out _ _).mono ?_
  rintro e w3 ⟨rfl, hb⟩
  have hb3 := hb.mono (B' := w.heap.size) (by simp)
  have L : Lies w3 w.heap.size 48 #[.bool false, .int .i64 0] := (Lies.new w 48 #[.bool false, .int .i64 0]).below hb (by simp)
  have G := Bx.mk (((Below.refl _ w).alloc (Nat.le_refl _) (.cells #[.bool false, .int .i64 0] 48)).trans hb3)
  have c0 := L.cell 0; have c1 := L.cell 1
  have f0 := L.frozen 0; have f1 := L.frozen 1
  simp at c0 c1
  clear hb hb3 L
  go_wp2_with fail
  refine bodyPost_ret (v := stv (false, 0, q)) (by simp [results, Try.results17, go_sem, c0, c1, stv]) rfl ⟨rfl, ?_⟩
  repeat (first | exact G.out | refine Below.setCell ?_ (by simp) _)
set_option maxHeartbeats 2000000 in
set_option maxRecDepth 100000 in
theorem stat_one {w : World} {ok : Nat → Prop} {A : Option Addr} {c : Nat} (hs : Spell w ok A 1 c [1]) (hok : ∀ g, ok g → g < w.heap.size) : Calls Try.prog 17 #[.slice A 1 c] w (Gives (stv (false, 0, 5)) w) := by
  have HV := Bx.mk (@vers_any)
  have HC := Bx.mk (failT_any)
  have HS := Bx.mk (hs.below (B := w.heap.size) ((Below.refl _ _).alloc (by simp) (.cells #[.bool false, .int .i64 0] 48)) hok)
  clear hs hok
  go_enter Try.func17, Try.ntmps17
  go_wp2_with fail
  refine (HV.out HS.out).mono ?_
  rintro e w2 ⟨rfl, rfl⟩
  simp only [vs, if_true]
  go_wp2_with fail
  refine (HC.out _ _).mono ?_
  rintro e w3 ⟨rfl, hb⟩
  have hb3 := hb.mono (B' := w.heap.size) (by simp)
  have L : Lies w3 w.heap.size 48 #[.bool false, .int .i64 0] := (Lies.new w 48 #[.bool false, .int .i64 0]).below hb (by simp)
  have G := Bx.mk (((Below.refl _ w).alloc (Nat.le_refl _) (.cells #[.bool false, .int .i64 0] 48)).trans hb3)
  have c0 := L.cell 0; have c1 := L.cell 1
  have f0 := L.frozen 0; have f1 := L.frozen 1
  simp at c0 c1
  clear hb hb3 L
  go_wp2_with fail
  refine bodyPost_ret (v := stv (false, 0, 5)) (by simp [results, Try.results17, go_sem, c0, c1, stv]) rfl ⟨rfl, ?_⟩
  repeat (first | exact G.out | refine Below.setCell ?_ (by simp) _)
set_option maxHeartbeats 2000000 in
set_option maxRecDepth 100000 in
theorem stat_two {w : World} {ok : Nat → Prop} {A : Option Addr} {n c : Nat} {m : UInt8} {r : Str} (hs : Spell w ok A n c (1 :: m :: r)) (hok : ∀ g, ok g → g < w.heap.size) : Calls Try.prog 17 #[.slice A n c] w (Gives (stv (m == 0, 2, 0)) w) := by
  have HV := Bx.mk (@vers_any)
  have hs1 := hs.below (B := w.heap.size) ((Below.refl _ _).alloc (by simp) (.cells #[.bool false, .int .i64 0] 48)) hok
  have HS := Bx.mk hs1
  obtain ⟨g, off, rfl, ho, hc, hd⟩ := two_cells hs1
  have hgw := hok _ ho
  have hn := spell_len hs
  have h1 : 1 < n := by rw [← hn]; simp
  have hne : ((n : Int) == 1) = false := by simp; omega
  have hm : (m == 0) = ((m.toNat : Int) == 0) := by
    by_cases h : m = 0
    · subst h; rfl
    · have := byte_ne0 h
      rw [beq_eq_false_iff_ne.2 h, beq_eq_false_iff_ne.2 this]
  rw [hm]
  generalize (m.toNat : Int) = z at *
  clear hs hok hs1 hn hc hm
  go_enter Try.func17, Try.ntmps17
  go_wp2_with fail
  refine (HV.out HS.out).mono ?_
  rintro e w2 ⟨rfl, rfl⟩
  simp only [vs, if_true]
  go_wp2_with fail
  refine bodyPost_ret (v := stv (z == 0, 2, 0)) (by simp [results, Try.results17, go_sem, stv]) rfl ⟨rfl, ?_⟩
  exact (Below.refl _ w).alloc (Nat.le_refl _) _
theorem stat_any {w : World} {ok : Nat → Prop} {A : Option Addr} {n c : Nat} {b : Str} (hs : Spell w ok A n c b) (hok : ∀ g, ok g → g < w.heap.size) : Calls Try.prog 17 #[.slice A n c] w (Gives (stv (ch b)) w) := by
  have hn := spell_len hs
  match b with
  | [] => exact stat_bad hs hok (q := 5) rfl (by decide)
  | v :: r =>
    by_cases hv : v = 1
    · subst hv
      match r with
      | [] => obtain rfl : n = 1 := hn.symm; exact stat_one hs hok
      | m :: r => exact stat_two hs hok
    · rw [show ch (v :: r) = (false, 0, 6) by simp [ch, hv]]
      exact stat_bad hs hok (q := 6) (by simp [vs, hv]) (by decide)
set_option maxHeartbeats 2000000 in
set_option maxRecDepth 100000 in
theorem ans_any {w : World} {ok : Nat → Prop} {A : Option Addr} {n c : Nat} {b : Str} (hs : Spell w ok A n c b) (hok : ∀ g, ok g → g < w.heap.size) : Calls Try.prog 9 #[.slice A n c] w (AnsTo (ch b) w) := by
  have HC := Bx.mk (stat_any hs hok)
  clear hs hok
  generalize ch b = x at *
  obtain ⟨u, m, q⟩ := x
  unfold stv at HC
  go_enter Try.func9, Try.ntmps9
  go_wp2_with fail
  refine HC.out.mono ?_
  rintro e w2 ⟨rfl, hb⟩
  have G := Bx.mk (hb.alloc hb.size (.cells #[.bool u, .int .i64 (m : Int)] 48))
  clear hb HC
  go_wp2_with fail
  go_quiet (fail)
  go_wp2_with fail
  refine bodyPost_ret (v := .tuple #[.bool u, .int .i64 (m : Int), .int .i64 (q : Int)]) (by simp [results, Try.results9, go_sem]) rfl ⟨rfl, ?_⟩
  exact below_drewN G.out _
end Go.Proofs.Ytnkfmbdaicpahaa.gr
