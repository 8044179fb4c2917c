/-
  Given for the seat's laws: the contract of connect.asked. No condition but those of the theorems.
-/
import Derived.Test.YtghdaengkgiekaaGreatDoorYCPure
import Derived.Deep.CutBlock
import Derived.Deep.DeepCutAuto
namespace Go.Proofs.YtghdaengkgiekaaGreatDoor.cn
open Go.RowKit mem hd
set_option linter.unusedVariables false

def av (a : A) : Value := .agg #[.int .u8 (a.k : Int), .string (S a.t), .int .i64 a.p, .bool a.sg, .string (S a.us), .string (S a.ps), .bool a.hp, .string (S a.tk)]
def zc : Array Value := #[.int .u8 0, .string ⟨#[]⟩, .int .i64 0, .bool false, .string ⟨#[]⟩, .string ⟨#[]⟩, .bool false, .string ⟨#[]⟩]
theorem rown_weak {w : World} {B B' : Nat} {v : Value} {e : TypeId} {sz k : Nat} {xs : List Value} (h : w.ownsRow B e sz v k xs) (hB : B' ≤ B) : w.ownsRow B' e sz v k xs :=
  ⟨h.1, h.2.imp id fun ⟨g, cap, cur, hv, hb, rest⟩ => ⟨g, cap, cur, hv, Nat.le_trans hB hb, rest⟩⟩
def put8 (W : World) (h : Nat) (v0 v1 v2 v3 v4 v5 v6 v7 : Value) : World :=
  (((((((W.setCell ⟨h, 0, none⟩ v0).setCell ⟨h, 1, none⟩ v1).setCell ⟨h, 2, none⟩ v2).setCell ⟨h, 3, none⟩ v3).setCell ⟨h, 4, none⟩ v4).setCell ⟨h, 5, none⟩ v5).setCell ⟨h, 6, none⟩ v6).setCell ⟨h, 7, none⟩ v7
theorem ask_put {w W : World} {h : Nat} {u0 u1 u2 u3 u4 u5 u6 u7 : Value} (hl : Lies W h 27 #[u0, u1, u2, u3, u4, u5, u6, u7]) (hb : Below w.heap.size w W) (hh : w.heap.size ≤ h) (v0 v1 v2 v3 v4 v5 v6 v7 : Value) :
    Lies (put8 W h v0 v1 v2 v3 v4 v5 v6 v7) h 27 #[v0, v1, v2, v3, v4, v5, v6, v7] ∧ Below w.heap.size w (put8 W h v0 v1 v2 v3 v4 v5 v6 v7) := by
  have h0 : Lies (W.setCell ⟨h, 0, none⟩ v0) h 27 #[v0, u1, u2, u3, u4, u5, u6, u7] := by simpa using hl.set 0 v0
  obtain ⟨W0, hW0⟩ : ∃ X, X = W.setCell ⟨h, 0, none⟩ v0 := ⟨_, rfl⟩
  rw [← hW0] at h0
  have h1 : Lies (W0.setCell ⟨h, 1, none⟩ v1) h 27 #[v0, v1, u2, u3, u4, u5, u6, u7] := by simpa using h0.set 1 v1
  obtain ⟨W1, hW1⟩ : ∃ X, X = W0.setCell ⟨h, 1, none⟩ v1 := ⟨_, rfl⟩
  rw [← hW1] at h1
  have h2 : Lies (W1.setCell ⟨h, 2, none⟩ v2) h 27 #[v0, v1, v2, u3, u4, u5, u6, u7] := by simpa using h1.set 2 v2
  obtain ⟨W2, hW2⟩ : ∃ X, X = W1.setCell ⟨h, 2, none⟩ v2 := ⟨_, rfl⟩
  rw [← hW2] at h2
  have h3 : Lies (W2.setCell ⟨h, 3, none⟩ v3) h 27 #[v0, v1, v2, v3, u4, u5, u6, u7] := by simpa using h2.set 3 v3
  obtain ⟨W3, hW3⟩ : ∃ X, X = W2.setCell ⟨h, 3, none⟩ v3 := ⟨_, rfl⟩
  rw [← hW3] at h3
  have h4 : Lies (W3.setCell ⟨h, 4, none⟩ v4) h 27 #[v0, v1, v2, v3, v4, u5, u6, u7] := by simpa using h3.set 4 v4
  obtain ⟨W4, hW4⟩ : ∃ X, X = W3.setCell ⟨h, 4, none⟩ v4 := ⟨_, rfl⟩
  rw [← hW4] at h4
  have h5 : Lies (W4.setCell ⟨h, 5, none⟩ v5) h 27 #[v0, v1, v2, v3, v4, v5, u6, u7] := by simpa using h4.set 5 v5
  obtain ⟨W5, hW5⟩ : ∃ X, X = W4.setCell ⟨h, 5, none⟩ v5 := ⟨_, rfl⟩
  rw [← hW5] at h5
  have h6 : Lies (W5.setCell ⟨h, 6, none⟩ v6) h 27 #[v0, v1, v2, v3, v4, v5, v6, u7] := by simpa using h5.set 6 v6
  obtain ⟨W6, hW6⟩ : ∃ X, X = W5.setCell ⟨h, 6, none⟩ v6 := ⟨_, rfl⟩
  rw [← hW6] at h6
  have h7 : Lies (W6.setCell ⟨h, 7, none⟩ v7) h 27 #[v0, v1, v2, v3, v4, v5, v6, v7] := by simpa using h6.set 7 v7
  have b0 : Below w.heap.size w (W.setCell ⟨h, 0, none⟩ v0) := hb.setCell (p := ⟨h, 0, none⟩) hh v0
  rw [← hW0] at b0
  have b1 : Below w.heap.size w (W0.setCell ⟨h, 1, none⟩ v1) := b0.setCell (p := ⟨h, 1, none⟩) hh v1
  rw [← hW1] at b1
  have b2 : Below w.heap.size w (W1.setCell ⟨h, 2, none⟩ v2) := b1.setCell (p := ⟨h, 2, none⟩) hh v2
  rw [← hW2] at b2
  have b3 : Below w.heap.size w (W2.setCell ⟨h, 3, none⟩ v3) := b2.setCell (p := ⟨h, 3, none⟩) hh v3
  rw [← hW3] at b3
  have b4 : Below w.heap.size w (W3.setCell ⟨h, 4, none⟩ v4) := b3.setCell (p := ⟨h, 4, none⟩) hh v4
  rw [← hW4] at b4
  have b5 : Below w.heap.size w (W4.setCell ⟨h, 5, none⟩ v5) := b4.setCell (p := ⟨h, 5, none⟩) hh v5
  rw [← hW5] at b5
  have b6 : Below w.heap.size w (W5.setCell ⟨h, 6, none⟩ v6) := b5.setCell (p := ⟨h, 6, none⟩) hh v6
  rw [← hW6] at b6
  have b7 : Below w.heap.size w (W6.setCell ⟨h, 7, none⟩ v7) := b6.setCell (p := ⟨h, 7, none⟩) hh v7
  unfold put8
  rw [← hW0, ← hW1, ← hW2, ← hW3, ← hW4, ← hW5, ← hW6]
  exact ⟨h7, b7⟩
theorem eight {W : World} {h : Nat} {v0 v1 v2 v3 v4 v5 v6 v7 : Value} (hl : Lies W h 27 #[v0, v1, v2, v3, v4, v5, v6, v7]) :
    W.cell? ⟨h, 0, none⟩ = some v0 ∧ W.cell? ⟨h, 1, none⟩ = some v1 ∧ W.cell? ⟨h, 2, none⟩ = some v2 ∧ W.cell? ⟨h, 3, none⟩ = some v3 ∧ W.cell? ⟨h, 4, none⟩ = some v4 ∧ W.cell? ⟨h, 5, none⟩ = some v5 ∧ W.cell? ⟨h, 6, none⟩ = some v6 ∧ W.cell? ⟨h, 7, none⟩ = some v7 :=
  ⟨hl.cell 0, hl.cell 1, hl.cell 2, hl.cell 3, hl.cell 4, hl.cell 5, hl.cell 6, hl.cell 7⟩
theorem results_asked {W : World} {h : Nat} {v0 v1 v2 v3 v4 v5 v6 v7 : Value} (hl : Lies W h 27 #[v0, v1, v2, v3, v4, v5, v6, v7]) (tmps : Array Value) (h2 : tmps[2]?.getD undef = .pointer (some ⟨h, 0, none⟩)) {u3 : Value} (h3 : tmps[3]?.getD undef = u3) :
    (results Tryz.f38 tmps).run Tryz.prog W = .ok (.tuple #[.agg #[v0, v1, v2, v3, v4, v5, v6, v7], u3]) W := by
  obtain ⟨c0, c1, c2, c3, c4, c5, c6, c7⟩ := eight hl
  simp [results, Tryz.results38, go_sem, h2, h3, c0, c1, c2, c3, c4, c5, c6, c7]
def AskTo (l : Str) (fs : Flds) (w : World) (e : Ending) (w' : World) : Prop := Gives (.tuple #[av (asked l fs).1, .int .i64 ((asked l fs).2 : Int)]) w e w'
theorem ask_bad {w W : World} {h : Nat} (hl : Lies W h 27 zc) (hb : Below w.heap.size w W) (hh : w.heap.size ≤ h) {l : Str} {fs : Flds} {k : Nat} (he : asked l fs = (zero, k)) :
    Lies (put8 W h (.int .u8 0) (.string ⟨#[]⟩) (.int .i64 0) (.bool false) (.string ⟨#[]⟩) (.string ⟨#[]⟩) (.bool false) (.string ⟨#[]⟩)) h 27 zc ∧
      AskTo l fs w (.returned (.tuple #[.agg zc, .int .i64 (k : Int)])) (put8 W h (.int .u8 0) (.string ⟨#[]⟩) (.int .i64 0) (.bool false) (.string ⟨#[]⟩) (.string ⟨#[]⟩) (.bool false) (.string ⟨#[]⟩)) := by
  obtain ⟨h1, h2⟩ := ask_put hl hb hh (.int .u8 0) (.string ⟨#[]⟩) (.int .i64 0) (.bool false) (.string ⟨#[]⟩) (.string ⟨#[]⟩) (.bool false) (.string ⟨#[]⟩)
  exact ⟨h1, by rw [he]; rfl, h2⟩
theorem valuesOf_one {w : World} {A : Option Addr} {n c : Nat} {l : Str} {fs : Flds} (hf : FAt w (fun g => g < w.heap.size) A n c fs) (hn : n ≤ 100) {g : Nat} {s : Str} (hg : g < w.heap.size) (hc : w.cell? ⟨g, 0, none⟩ = some (.string (S s))) (hs : s.length ≤ 100) :
    Calls Tryz.prog 65 #[.agg #[.string (S l), .slice A n c], .slice (some ⟨g, 0, none⟩) 1 1] w (ValsTo (vs fs s) w) := by
  have h := valuesOf_any (l := l) hf (fun g hg => hg) hn (g := g) (off := 0) (names := [s]) (k := 1) (ck := 1) hg (fun j x hx => by
    match j, hx with
    | 0, hx => simp at hx; subst hx; exact hc) rfl (by omega) (fun x hx => by simp at hx; subst hx; exact hs)
  simpa using h
theorem valuesOf_two {w : World} {A : Option Addr} {n c : Nat} {l : Str} {fs : Flds} (hf : FAt w (fun g => g < w.heap.size) A n c fs) (hn : n ≤ 100) {g : Nat} {s t : Str} (hg : g < w.heap.size) (hc : w.cell? ⟨g, 0, none⟩ = some (.string (S s))) (hc2 : w.cell? ⟨g, 1, none⟩ = some (.string (S t))) (hs : s.length ≤ 100) (ht : t.length ≤ 100) :
    Calls Tryz.prog 65 #[.agg #[.string (S l), .slice A n c], .slice (some ⟨g, 0, none⟩) 2 2] w (ValsTo (vs fs s ++ vs fs t) w) := by
  have h := valuesOf_any (l := l) hf (fun g hg => hg) hn (g := g) (off := 0) (names := [s, t]) (k := 2) (ck := 2) hg (fun j x hx => by
    match j, hx with
    | 0, hx => simp at hx; subst hx; exact hc
    | 1, hx => simp at hx; subst hx; exact hc2) rfl (by omega) (fun x hx => by
      simp at hx
      rcases hx with rfl | rfl
      · exact hs
      · exact ht)
  simpa using h
theorem fat_nx {W W' : World} {A : Option Addr} {n c : Nat} {fs : Flds} (h : FAt W (fun g => g < W.heap.size) A n c fs) (hb : Below W.heap.size W W') : FAt W' (fun g => g < W'.heap.size) A n c fs :=
  (h.below hb (fun g hg => hg)).weak fun g hg => Nat.lt_of_lt_of_le hg hb.size
theorem row_nx {W W' : World} {B : Nat} {v : Value} {l : List Str} (h : RowS W B v l) (hb : Below W.heap.size W W') : RowS W' B v l := rown_same h fun g hg => hb.block g (rown_lt h hg).2
theorem row_cell {W : World} {B : Nat} {A : Option Addr} {k c : Nat} {v : List Str} (h : RowS W B (.slice A k c) v) (hk : v.length = k) {i : Nat} {x : Str} (hx : v[i]? = some x) : ∃ g, A = some ⟨g, 0, none⟩ ∧ W.cell? ⟨g, i, none⟩ = some (.string (S x)) := by
  have hi := (List.getElem?_eq_some_iff.1 hx).1
  subst hk
  obtain ⟨g, hA⟩ : ∃ g, A = some ⟨g, 0, none⟩ := by
    rcases h.2 with ⟨h1, _⟩ | ⟨g, cap, cur, h1, _⟩
    · simp at h1
      omega
    · simp at h1
      exact ⟨g, h1.1⟩
  subst hA
  have hc := World.ownsRow.cellAt h i (by omega)
  have hxs : (strv v)[i]? = some (.string (S x)) := by simp [strv, hx]
  rw [hxs] at hc
  exact ⟨g, rfl, hc⟩
/-- what stands behind the first two lookups -/
structure R4 (w W : World) (As : Option Addr) (k1 c1 : Nat) (Ah : Option Addr) (k2 c2 : Nat) (signs hops : List Str) : Prop where
  rs : RowS W w.heap.size (.slice As k1 c1) signs
  rh : RowS W w.heap.size (.slice Ah k2 c2) hops
  be : Below w.heap.size w W
def credOf (s : List Str) : Str × Str × Bool := match s with
  | [] => ([], [], false)
  | v :: _ => cred v
def hopOf (s : List Str) : Bool × Str := match s with
  | [] => (false, [])
  | v :: _ => (true, v)
/-- the answer on its way -/
structure AS (w W : World) (g8 : Nat) (tk : Int) (tt : ByteArray) (tp : Int) (cr : Str × Str × Bool) (hp : Bool × Str) (As : Option Addr) (k1 c1 : Nat) (Ah : Option Addr) (k2 c2 : Nat) (signs hops : List Str) : Prop where
  res : Lies W (w.heap.size + 1) 27 zc
  loc : Lies W g8 27 #[.int .u8 tk, .string tt, .int .i64 tp, .bool cr.2.2, .string (S cr.1), .string (S cr.2.1), .bool hp.1, .string (S hp.2)]
  rs : RowS W w.heap.size (.slice As k1 c1) signs
  rh : RowS W w.heap.size (.slice Ah k2 c2) hops
  be : Below w.heap.size w W
  ge : w.heap.size + 2 ≤ g8
section
variable {w W W' : World} {g8 : Nat} {tk : Int} {tt : ByteArray} {tp : Int} {cr : Str × Str × Bool} {hp : Bool × Str} {As : Option Addr} {k1 c1 : Nat} {Ah : Option Addr} {k2 c2 : Nat} {signs hops : List Str}
theorem AS.next (H : AS w W g8 tk tt tp cr hp As k1 c1 Ah k2 c2 signs hops) (hb : Below W.heap.size W W') : AS w W' g8 tk tt tp cr hp As k1 c1 Ah k2 c2 signs hops :=
  ⟨H.res.below hb H.res.lt, H.loc.below hb H.loc.lt, row_nx H.rs hb, row_nx H.rh hb, H.be.trans (hb.mono H.be.size), H.ge⟩
theorem AS.far (H : AS w W g8 tk tt tp cr hp As k1 c1 Ah k2 c2 signs hops) (i : Nat) (u : Value) : Lies (W.setCell ⟨g8, i, none⟩ u) (w.heap.size + 1) 27 zc ∧ RowS (W.setCell ⟨g8, i, none⟩ u) w.heap.size (.slice As k1 c1) signs ∧ RowS (W.setCell ⟨g8, i, none⟩ u) w.heap.size (.slice Ah k2 c2) hops ∧ Below w.heap.size w (W.setCell ⟨g8, i, none⟩ u) := by
  have hg := H.ge
  refine ⟨H.res.far (p := ⟨g8, i, none⟩) (by show w.heap.size + 1 ≠ g8; omega) _, rown_same H.rs fun g e => Below.heap_setCell _ _ _ _ fun h => rown_ne H.rs H.loc (by decide) (by rw [e]; exact congrArg some h), rown_same H.rh fun g e => Below.heap_setCell _ _ _ _ fun h => rown_ne H.rh H.loc (by decide) (by rw [e]; exact congrArg some h), H.be.setCell (p := ⟨g8, i, none⟩) (by show w.heap.size ≤ g8; omega) _⟩
theorem AS.cred (H : AS w W g8 tk tt tp cr hp As k1 c1 Ah k2 c2 signs hops) (x : Str × Str × Bool) : AS w (((W.setCell ⟨g8, 4, none⟩ (.string (S x.1))).setCell ⟨g8, 5, none⟩ (.string (S x.2.1))).setCell ⟨g8, 3, none⟩ (.bool x.2.2)) g8 tk tt tp x hp As k1 c1 Ah k2 c2 signs hops := by
  have step : ∀ (cr' : Str × Str × Bool) (W : World), AS w W g8 tk tt tp cr' hp As k1 c1 Ah k2 c2 signs hops → ∀ x : Str, AS w (W.setCell ⟨g8, 4, none⟩ (.string (S x))) g8 tk tt tp (x, cr'.2) hp As k1 c1 Ah k2 c2 signs hops := fun cr' W H x => by
    obtain ⟨a, b, c, d⟩ := H.far 4 (.string (S x))
    exact ⟨a, H.loc.set 4 _, b, c, d, H.ge⟩
  have step2 : ∀ (cr' : Str × Str × Bool) (W : World), AS w W g8 tk tt tp cr' hp As k1 c1 Ah k2 c2 signs hops → ∀ x : Str, AS w (W.setCell ⟨g8, 5, none⟩ (.string (S x))) g8 tk tt tp (cr'.1, x, cr'.2.2) hp As k1 c1 Ah k2 c2 signs hops := fun cr' W H x => by
    obtain ⟨a, b, c, d⟩ := H.far 5 (.string (S x))
    exact ⟨a, H.loc.set 5 _, b, c, d, H.ge⟩
  have step3 : ∀ (cr' : Str × Str × Bool) (W : World), AS w W g8 tk tt tp cr' hp As k1 c1 Ah k2 c2 signs hops → ∀ x : Bool, AS w (W.setCell ⟨g8, 3, none⟩ (.bool x)) g8 tk tt tp (cr'.1, cr'.2.1, x) hp As k1 c1 Ah k2 c2 signs hops := fun cr' W H x => by
    obtain ⟨a, b, c, d⟩ := H.far 3 (.bool x)
    exact ⟨a, H.loc.set 3 _, b, c, d, H.ge⟩
  exact step3 _ _ (step2 _ _ (step _ _ H x.1) x.2.1) x.2.2
theorem AS.hop (H : AS w W g8 tk tt tp cr hp As k1 c1 Ah k2 c2 signs hops) (x : Str) : AS w ((W.setCell ⟨g8, 7, none⟩ (.string (S x))).setCell ⟨g8, 6, none⟩ (.bool true)) g8 tk tt tp cr (true, x) As k1 c1 Ah k2 c2 signs hops := by
  have h1 : AS w (W.setCell ⟨g8, 7, none⟩ (.string (S x))) g8 tk tt tp cr (hp.1, x) As k1 c1 Ah k2 c2 signs hops := by
    obtain ⟨a, b, c, d⟩ := H.far 7 (.string (S x))
    exact ⟨a, H.loc.set 7 _, b, c, d, H.ge⟩
  obtain ⟨a, b, c, d⟩ := h1.far 6 (.bool true)
  exact ⟨a, h1.loc.set 6 _, b, c, d, H.ge⟩
end
theorem tgt_err {l : Str} {k : Nat} (h : tgt l = .error k) : k = 6 ∨ k = 140 := by
  unfold tgt at h
  split at h
  · split at h
    · cases h; exact .inl rfl
    · split at h
      · cases h; exact .inr rfl
      · split at h
        · cases h; exact .inl rfl
        · cases h
  · cases h; exact .inl rfl
theorem asked_ok {l : Str} {fs : Flds} {t : hostp.T} (ht : tgt l = .ok t) : asked l fs = (if (vs fs sHost).length ≠ 1 ∨ 1 < (vs fs sSign).length ∨ 1 < (vs fs sHops).length ∨ 0 < (vs fs sSize).length + (vs fs sCoded).length then (zero, 6)
    else (⟨t.host.kind, t.host.text, t.port, (credOf (vs fs sSign)).2.2, (credOf (vs fs sSign)).1, (credOf (vs fs sSign)).2.1, (hopOf (vs fs sHops)).1, (hopOf (vs fs sHops)).2⟩, 0)) := by
  unfold asked
  rw [ht]
  rfl
theorem vs_mem {fs : Flds} {n v : Str} (h : v ∈ vs fs n) (hv : ∀ p ∈ fs, p.2.length ≤ 1000) : v.length ≤ 1000 := by
  unfold vs vals at h
  obtain ⟨p, hp, rfl⟩ := List.mem_map.1 h
  exact hv p (List.mem_filter.1 hp).1
set_option maxRecDepth 100000 in
set_option maxHeartbeats 16000000 in
theorem asked_any {w : World} (he : hw.Env w) {A : Option Addr} {n c : Nat} {l : Str} {fs : Flds} (hf : FAt w (fun g => g < w.heap.size) A n c fs) (hn : n ≤ 100) (hl : l.length ≤ 1000) (hv : ∀ p ∈ fs, p.2.length ≤ 1000) :
    Calls Tryz.prog 38 #[.agg #[.string (S l), .slice A n c]] w (AskTo l fs w) := by
  have hbox := Lies.new w 47 #[.string (S l), .slice A n c]
  have hb1 : Below w.heap.size w (w.alloc (.cells #[.string (S l), .slice A n c] 47)) := (Below.refl _ _).alloc (Nat.le_refl _) _
  have hres : Lies ((w.alloc (.cells #[.string (S l), .slice A n c] 47)).alloc (.cells #[.int .u8 0, .string ⟨#[]⟩, .int .i64 0, .bool false, .string ⟨#[]⟩, .string ⟨#[]⟩, .bool false, .string ⟨#[]⟩] 27)) (w.heap.size + 1) 27 zc := by
    have h := Lies.new (w.alloc (.cells #[.string (S l), .slice A n c] 47)) 27 zc
    rw [show (w.alloc (.cells #[.string (S l), .slice A n c] 47)).heap.size = w.heap.size + 1 by simp] at h
    exact h
  have hbox1 := hbox.alloc (.cells #[.int .u8 0, .string ⟨#[]⟩, .int .i64 0, .bool false, .string ⟨#[]⟩, .string ⟨#[]⟩, .bool false, .string ⟨#[]⟩] 27)
  have hb2 := hb1.alloc hb1.size (.cells #[.int .u8 0, .string ⟨#[]⟩, .int .i64 0, .bool false, .string ⟨#[]⟩, .string ⟨#[]⟩, .bool false, .string ⟨#[]⟩] 27)
  have HB1 := Bx.mk hbox1
  have HR1 := Bx.mk hres
  have HF1 := Bx.mk (fat_nx hf hb2)
  have HBE1 := Bx.mk hb2
  have HE := Bx.mk he
  have HVL := Bx.mk hv
  have HT := Bx.mk (targetOf_any (he.below hb2) l hl)
  have x0 : ((w.alloc (.cells #[.string (S l), .slice A n c] 47)).alloc (.cells #[.int .u8 0, .string ⟨#[]⟩, .int .i64 0, .bool false, .string ⟨#[]⟩, .string ⟨#[]⟩, .bool false, .string ⟨#[]⟩] 27)).cell? ⟨w.heap.size, 0, none⟩ = some (.string (S l)) := hbox1.cell 0
  clear he hf hv hbox hb1 hb2 hres hbox1 hl
  go_enter Tryz.func38, Tryz.ntmps38
  go_upto_region 1 with fail
  generalize (w.alloc (.cells #[.string (S l), .slice A n c] 47)).alloc (.cells #[.int .u8 0, .string ⟨#[]⟩, .int .i64 0, .bool false, .string ⟨#[]⟩, .string ⟨#[]⟩, .bool false, .string ⟨#[]⟩] 27) = W1 at *
  go_wp2_with fail
  refine HT.out.mono ?_
  rintro e w2 ⟨rfl, hb⟩
  clear x0 HT
  cases htg : tgt l with
  | error k =>
    have hk := tgt_err htg
    have hv : TgV (.error k) = .tuple #[.agg #[.int .u8 0, .string ⟨#[]⟩, .int .i64 0], .int .i64 (k : Int)] := rfl
    rw [hv]
    have q : ((k : Int) != 0) = true := by simp; omega
    have hba := hb.alloc hb.size (.cells #[.int .u8 0, .string ⟨#[]⟩, .int .i64 0] 25)
    have HR3 := Bx.mk (HR1.out.below hba HR1.out.lt)
    have HBE3 := Bx.mk (HBE1.out.trans (hba.mono HBE1.out.size))
    have HA := Bx.mk (ask_bad HR3.out HBE3.out (by omega) (l := l) (fs := fs) (k := k) (by unfold asked; rw [htg]))
    clear hv hb hba hk htg HR1 HB1 HF1 HBE1
    go_upto_region 2 with fail
    generalize w2.alloc (.cells #[.int .u8 0, .string ⟨#[]⟩, .int .i64 0] 25) = W3 at *
    obtain ⟨r0, r1, r2, r3, r4, r5, r6, r7⟩ := eight HR3.out
    have f0 := HR3.out.frozen 0; have f1 := HR3.out.frozen 1; have f2 := HR3.out.frozen 2; have f3 := HR3.out.frozen 3
    have f4 := HR3.out.frozen 4; have f5 := HR3.out.frozen 5; have f6 := HR3.out.frozen 6; have f7 := HR3.out.frozen 7
    go_wp2_with fail
    exact bodyPost_ret (results_asked HA.out.1 _ rfl rfl) rfl HA.out.2
  | ok t =>
  obtain ⟨tk, hk⟩ : ∃ tk : Int, (t.host.kind : Int) = tk := ⟨_, rfl⟩
  obtain ⟨tt, htt⟩ : ∃ tt, S t.host.text = tt := ⟨_, rfl⟩
  obtain ⟨tp, hp2⟩ : ∃ tp, t.port = tp := ⟨_, rfl⟩
  have hv : TgV (.ok t) = .tuple #[.agg #[.int .u8 tk, .string tt, .int .i64 tp], .int .i64 0] := by rw [← hk, ← htt, ← hp2]; rfl
  rw [hv]
  have hba := hb.alloc hb.size (.cells #[.int .u8 tk, .string tt, .int .i64 tp] 25)
  have HT3 := Bx.mk (Lies.new w2 25 #[.int .u8 tk, .string tt, .int .i64 tp])
  have HR3 := Bx.mk (HR1.out.below hba HR1.out.lt)
  have HB3 := Bx.mk (HB1.out.below hba HB1.out.lt)
  have HF3 := Bx.mk (fat_nx HF1.out hba)
  have HBE3 := Bx.mk (HBE1.out.trans (hba.mono HBE1.out.size))
  have HAS := Bx.mk (asked_ok (fs := fs) htg)
  have HTK := Bx.mk hk; have HTT := Bx.mk htt; have HTP := Bx.mk hp2
  have hge : w.heap.size + 2 ≤ w2.heap.size := Nat.le_trans HR1.out.lt hb.size
  clear hv hb hba hk htt hp2 htg HR1 HB1 HF1 HBE1
  go_upto_region 4 with fail
  generalize w2.alloc (.cells #[.int .u8 tk, .string tt, .int .i64 tp] 25) = W3 at *
  generalize w2.heap.size = gt at *
  obtain ⟨k1, hk1⟩ : ∃ k1, (vs fs sSign).length = k1 := ⟨_, rfl⟩
  obtain ⟨k2, hk2⟩ : ∃ k2, (vs fs sHops).length = k2 := ⟨_, rfl⟩
  have HK1 := Bx.mk hk1; have HK2 := Bx.mk hk2
  have x0 := HB3.out.cell 0; have x1 := HB3.out.cell 1
  simp at x0 x1
  have HC : Bx (∀ W', Below W3.heap.size W3 W' → W'.cell? ⟨w.heap.size, 0, none⟩ = some (.string (S l)) ∧ W'.cell? ⟨w.heap.size, 1, none⟩ = some (.slice A n c)) := ⟨fun W' hb => ⟨hd.cell_kept x0 hb, hd.cell_kept x1 hb⟩⟩
  have b0 : Below W3.heap.size W3 W3.drew := (Below.refl _ _).drew
  clear x0 x1 hk1 hk2
  go_cut [6, 7] (fun s6 s7 wx => ∃ (As : Option Addr) (c1 : Nat) (Ah : Option Addr) (c2 : Nat), s6 = .slice As k1 c1 ∧ s7 = .slice Ah k2 c2 ∧ Bx (R4 W3 wx As k1 c1 Ah k2 c2 (vs fs sSign) (vs fs sHops)))
  case first =>
    refine wp_region_held_drew (S := fun W' => W'.cell? ⟨w.heap.size, 0, none⟩ = some (.string (S l)) ∧ W'.cell? ⟨w.heap.size, 1, none⟩ = some (.slice A n c)) (by kernel_rfl) (HC.out _ b0) (fun hHeld => ?_)
    refine wpAnyH_take (i := 0) (oi := { dst := some 23, op := Op.load 47 (Operand.tmp 1), type := 47, pos := "connect.go:54", after := #[], guard := none }) (v := ?v1) rfl (by kernel_rfl) (by kernel_rfl) (by kernel_rfl) (fun _ _ _ h => h) (Or.inl ⟨by rfl, ?y1⟩) hHeld ?r1
    case y1 => (intro W hSw; (try dsimp only at hSw); go_simp; try with_reducible rfl)
    try simp only [Act.put, List.setIfInBounds_toArray, List.set_cons_zero, List.set_cons_succ]
    refine wpAnyH_take (i := 3) (oi := { dst := some 26, op := Op.load 47 (Operand.tmp 1), type := 47, pos := "connect.go:54", after := #[], guard := none }) (v := ?v2) rfl (by kernel_rfl) (by kernel_rfl) (by kernel_rfl) (fun _ _ _ h => h) (Or.inl ⟨by rfl, ?y2⟩) hHeld ?r2
    case y2 => (intro W hSw; (try dsimp only at hSw); go_simp; try with_reducible rfl)
    try simp only [Act.put, List.setIfInBounds_toArray, List.set_cons_zero, List.set_cons_succ]
    refine wpAnyH_ready (rs := [1, 4]) (by kernel_rfl) (by simp) (AllReadyH.cons (o := { dst := some 24, op := Op.buildSlice 50 1 #[(0, Operand.const (Value.string { data := #[80, 114, 111, 120, 121, 45, 65, 117, 116, 104, 111, 114, 105, 122, 97, 116, 105, 111, 110] }))], type := 50, pos := "connect.go:54", after := #[], guard := none }) rfl (fun K hK => ?_) (AllReadyH.cons (o := { dst := some 27, op := Op.buildSlice 50 1 #[(0, Operand.const (Value.string { data := #[72, 111, 112, 45, 84, 111, 107, 101, 110] }))], type := 50, pos := "connect.go:54", after := #[], guard := none }) rfl (fun K hK => ?_) AllReadyH.nil))
    · go_simp
      have e1 : Below W3.heap.size W3 (W3.alloc (.cells #[.string ⟨#[80, 114, 111, 120, 121, 45, 65, 117, 116, 104, 111, 114, 105, 122, 97, 116, 105, 111, 110]⟩] 9)).drew := ((Below.refl _ _).alloc (Nat.le_refl _) _).drew
      have n1 : (W3.alloc (.cells #[.string ⟨#[80, 114, 111, 120, 121, 45, 65, 117, 116, 104, 111, 114, 105, 122, 97, 116, 105, 111, 110]⟩] 9)).drew.cell? ⟨W3.heap.size, 0, none⟩ = some (.string (S sSign)) := lit_cell W3 #[.string (S sSign)] 9 (0, 0) 0
      have g1 : W3.heap.size < (W3.alloc (.cells #[.string ⟨#[80, 114, 111, 120, 121, 45, 65, 117, 116, 104, 111, 114, 105, 122, 97, 116, 105, 111, 110]⟩] 9)).drew.heap.size := by show _ < (W3.alloc (.cells #[.string ⟨#[80, 114, 111, 120, 121, 45, 65, 117, 116, 104, 111, 114, 105, 122, 97, 116, 105, 111, 110]⟩] 9)).heap.size; simp
      refine hK.out _ _ (HC.out _ e1) (fun hHeld => ?_)
      clear hK K
      try simp only [Act.put, List.setIfInBounds_toArray, List.set_cons_zero, List.set_cons_succ]
      refine wpAnyH_ready (rs := [2, 4]) (by kernel_rfl) (by simp) (AllReadyH.cons (o := { dst := some 25, op := Op.call { callee := Callee.value (Operand.func 65), args := #[Operand.tmp 23, Operand.tmp 24], argTypes := #[47, 50] }, type := 50, pos := "connect.go:54", after := #[{ on := 0, ground := Ground.data }, { on := 1, ground := Ground.data }], guard := none }) rfl (fun K hK => ?_) (AllReadyH.cons (o := { dst := some 27, op := Op.buildSlice 50 1 #[(0, Operand.const (Value.string { data := #[72, 111, 112, 45, 84, 111, 107, 101, 110] }))], type := 50, pos := "connect.go:54", after := #[], guard := none }) rfl (fun K hK => ?_) AllReadyH.nil))
      · go_simp
        refine (valuesOf_one (l := l) (fat_nx HF3.out e1) hn g1 n1 (by decide)).mono ?_
        rintro e v2w ⟨A1, c1, rfl, hr1, hb2⟩
        rw [HK1.out] at hr1 ⊢
        have e2 := e1.trans (hb2.mono e1.size)
        have rs := rown_weak hr1 e1.size
        refine hK.out _ _ (HC.out _ e2) (fun hHeld => ?_)
        clear hK K
        try simp only [Act.put, List.setIfInBounds_toArray, List.set_cons_zero, List.set_cons_succ]
        refine wpAnyH_ready (rs := [4]) (by kernel_rfl) (by simp) (AllReadyH.cons (o := { dst := some 27, op := Op.buildSlice 50 1 #[(0, Operand.const (Value.string { data := #[72, 111, 112, 45, 84, 111, 107, 101, 110] }))], type := 50, pos := "connect.go:54", after := #[], guard := none }) rfl (fun K hK => ?_) AllReadyH.nil)
        go_simp
        have e3 : Below W3.heap.size W3 (v2w.alloc (.cells #[.string ⟨#[72, 111, 112, 45, 84, 111, 107, 101, 110]⟩] 9)) := e2.alloc e2.size _
        have n2 : (v2w.alloc (.cells #[.string ⟨#[72, 111, 112, 45, 84, 111, 107, 101, 110]⟩] 9)).cell? ⟨v2w.heap.size, 0, none⟩ = some (.string (S sHops)) := lit_cell v2w #[.string (S sHops)] 9 (0, 0) 0
        have g2 : v2w.heap.size < (v2w.alloc (.cells #[.string ⟨#[72, 111, 112, 45, 84, 111, 107, 101, 110]⟩] 9)).heap.size := by simp
        have rs := row_nx rs ((Below.refl v2w.heap.size v2w).alloc (Nat.le_refl _) (.cells #[.string ⟨#[72, 111, 112, 45, 84, 111, 107, 101, 110]⟩] 9))
        refine hK.out _ _ (HC.out _ e3) (fun hHeld => ?_)
        clear hK K
        try simp only [Act.put, List.setIfInBounds_toArray, List.set_cons_zero, List.set_cons_succ]
        refine wpAnyH_ready (rs := [5]) (by kernel_rfl) (by simp) (AllReadyH.cons (o := { dst := some 28, op := Op.call { callee := Callee.value (Operand.func 65), args := #[Operand.tmp 26, Operand.tmp 27], argTypes := #[47, 50] }, type := 50, pos := "connect.go:54", after := #[{ on := 3, ground := Ground.data }, { on := 4, ground := Ground.data }, { on := 2, ground := Ground.chain }], guard := none }) rfl (fun K hK => ?_) AllReadyH.nil)
        go_simp
        refine (valuesOf_one (l := l) (fat_nx HF3.out e3) hn g2 n2 (by decide)).mono ?_
        rintro e v4w ⟨A2, c2, rfl, hr2, hb4⟩
        rw [HK2.out] at hr2 ⊢
        have e4 := e3.trans (hb4.mono e3.size)
        have rh := rown_weak hr2 e3.size
        have rs := row_nx rs hb4
        refine hK.out _ _ (HC.out _ e4) (fun hHeld => ?_)
        clear hK K
        try simp only [Act.put, List.setIfInBounds_toArray, List.set_cons_zero, List.set_cons_succ]
        refine wpAnyH_take (i := 6) (oi := { dst := some 6, op := Op.assign (Operand.tmp 25), type := 50, pos := "connect.go:54", after := #[{ on := 2, ground := Ground.data }, { on := 5, ground := Ground.chain }, { on := 0, ground := Ground.phase }, { on := 1, ground := Ground.phase }, { on := 2, ground := Ground.phase }, { on := 3, ground := Ground.textOnly Departure.lateStores }, { on := 4, ground := Ground.textOnly Departure.lateStores }, { on := 5, ground := Ground.textOnly Departure.lateStoresUnsure }], guard := none }) (v := ?v3) rfl (by kernel_rfl) (by kernel_rfl) (by kernel_rfl) (fun _ _ _ h => h) (Or.inl ⟨by rfl, ?y3⟩) hHeld ?r3
        case y3 => (intro W hSw; (try dsimp only at hSw); go_simp; try with_reducible rfl)
        try simp only [Act.put, List.setIfInBounds_toArray, List.set_cons_zero, List.set_cons_succ]
        refine wpAnyH_take (i := 7) (oi := { dst := some 7, op := Op.assign (Operand.tmp 28), type := 50, pos := "connect.go:54", after := #[{ on := 5, ground := Ground.data }, { on := 6, ground := Ground.chain }, { on := 0, ground := Ground.phase }, { on := 1, ground := Ground.phase }, { on := 2, ground := Ground.phase }, { on := 3, ground := Ground.phase }, { on := 4, ground := Ground.phase }, { on := 5, ground := Ground.phase }, { on := 6, ground := Ground.phase }], guard := none }) (v := ?v4) rfl (by kernel_rfl) (by kernel_rfl) (by kernel_rfl) (fun _ _ _ h => h) (Or.inl ⟨by rfl, ?y4⟩) hHeld ?r4
        case y4 => (intro W hSw; (try dsimp only at hSw); go_simp; try with_reducible rfl)
        try simp only [Act.put, List.setIfInBounds_toArray, List.set_cons_zero, List.set_cons_succ]
        refine wpAnyH_done (by kernel_rfl) ?_ _
        (try go_wp2_with fail)
        go_meet
        exact ⟨A1, c1, A2, c2, rfl, rfl, ⟨⟨rs, rh, e4⟩⟩⟩
      · go_simp
        have e5 : Below W3.heap.size W3 ((W3.alloc (.cells #[.string ⟨#[80, 114, 111, 120, 121, 45, 65, 117, 116, 104, 111, 114, 105, 122, 97, 116, 105, 111, 110]⟩] 9)).alloc (.cells #[.string ⟨#[72, 111, 112, 45, 84, 111, 107, 101, 110]⟩] 9)).drew := (((Below.refl _ _).alloc (Nat.le_refl _) _).alloc (by simp) _).drew
        have n2 : ((W3.alloc (.cells #[.string ⟨#[80, 114, 111, 120, 121, 45, 65, 117, 116, 104, 111, 114, 105, 122, 97, 116, 105, 111, 110]⟩] 9)).alloc (.cells #[.string ⟨#[72, 111, 112, 45, 84, 111, 107, 101, 110]⟩] 9)).drew.cell? ⟨W3.heap.size + 1, 0, none⟩ = some (.string (S sHops)) := by have h := lit_cell (W3.alloc (.cells #[.string ⟨#[80, 114, 111, 120, 121, 45, 65, 117, 116, 104, 111, 114, 105, 122, 97, 116, 105, 111, 110]⟩] 9)) #[.string (S sHops)] 9 (0, 0) 0; rw [show (W3.alloc (.cells #[.string ⟨#[80, 114, 111, 120, 121, 45, 65, 117, 116, 104, 111, 114, 105, 122, 97, 116, 105, 111, 110]⟩] 9)).heap.size = W3.heap.size + 1 by simp] at h; exact h
        have g2 : W3.heap.size + 1 < ((W3.alloc (.cells #[.string ⟨#[80, 114, 111, 120, 121, 45, 65, 117, 116, 104, 111, 114, 105, 122, 97, 116, 105, 111, 110]⟩] 9)).alloc (.cells #[.string ⟨#[72, 111, 112, 45, 84, 111, 107, 101, 110]⟩] 9)).drew.heap.size := by show _ < ((W3.alloc (.cells #[.string ⟨#[80, 114, 111, 120, 121, 45, 65, 117, 116, 104, 111, 114, 105, 122, 97, 116, 105, 111, 110]⟩] 9)).alloc (.cells #[.string ⟨#[72, 111, 112, 45, 84, 111, 107, 101, 110]⟩] 9)).heap.size; simp
        have n1 : ((W3.alloc (.cells #[.string ⟨#[80, 114, 111, 120, 121, 45, 65, 117, 116, 104, 111, 114, 105, 122, 97, 116, 105, 111, 110]⟩] 9)).alloc (.cells #[.string ⟨#[72, 111, 112, 45, 84, 111, 107, 101, 110]⟩] 9)).drew.cell? ⟨W3.heap.size, 0, none⟩ = some (.string (S sSign)) := (Below.cell ((Below.refl ((W3.alloc (.cells #[.string ⟨#[80, 114, 111, 120, 121, 45, 65, 117, 116, 104, 111, 114, 105, 122, 97, 116, 105, 111, 110]⟩] 9))).heap.size (W3.alloc (.cells #[.string ⟨#[80, 114, 111, 120, 121, 45, 65, 117, 116, 104, 111, 114, 105, 122, 97, 116, 105, 111, 110]⟩] 9))).alloc (Nat.le_refl _) (.cells #[.string ⟨#[72, 111, 112, 45, 84, 111, 107, 101, 110]⟩] 9)) (by simp)).trans n1
        have g1 : W3.heap.size < ((W3.alloc (.cells #[.string ⟨#[80, 114, 111, 120, 121, 45, 65, 117, 116, 104, 111, 114, 105, 122, 97, 116, 105, 111, 110]⟩] 9)).alloc (.cells #[.string ⟨#[72, 111, 112, 45, 84, 111, 107, 101, 110]⟩] 9)).drew.heap.size := by show _ < ((W3.alloc (.cells #[.string ⟨#[80, 114, 111, 120, 121, 45, 65, 117, 116, 104, 111, 114, 105, 122, 97, 116, 105, 111, 110]⟩] 9)).alloc (.cells #[.string ⟨#[72, 111, 112, 45, 84, 111, 107, 101, 110]⟩] 9)).heap.size; simp; omega
        refine hK.out _ _ (HC.out _ e5) (fun hHeld => ?_)
        clear hK K
        try simp only [Act.put, List.setIfInBounds_toArray, List.set_cons_zero, List.set_cons_succ]
        refine wpAnyH_ready (rs := [2]) (by kernel_rfl) (by simp) (AllReadyH.cons (o := { dst := some 25, op := Op.call { callee := Callee.value (Operand.func 65), args := #[Operand.tmp 23, Operand.tmp 24], argTypes := #[47, 50] }, type := 50, pos := "connect.go:54", after := #[{ on := 0, ground := Ground.data }, { on := 1, ground := Ground.data }], guard := none }) rfl (fun K hK => ?_) AllReadyH.nil)
        go_simp
        refine (valuesOf_one (l := l) (fat_nx HF3.out e5) hn g1 n1 (by decide)).mono ?_
        rintro e v6w ⟨A1, c1, rfl, hr1, hb6⟩
        rw [HK1.out] at hr1 ⊢
        have e6 := e5.trans (hb6.mono e5.size)
        have rs := rown_weak hr1 e5.size
        have n2 := hd.cell_kept n2 hb6
        have g2 := Nat.lt_of_lt_of_le g2 hb6.size
        refine hK.out _ _ (HC.out _ e6) (fun hHeld => ?_)
        clear hK K
        try simp only [Act.put, List.setIfInBounds_toArray, List.set_cons_zero, List.set_cons_succ]
        refine wpAnyH_ready (rs := [5]) (by kernel_rfl) (by simp) (AllReadyH.cons (o := { dst := some 28, op := Op.call { callee := Callee.value (Operand.func 65), args := #[Operand.tmp 26, Operand.tmp 27], argTypes := #[47, 50] }, type := 50, pos := "connect.go:54", after := #[{ on := 3, ground := Ground.data }, { on := 4, ground := Ground.data }, { on := 2, ground := Ground.chain }], guard := none }) rfl (fun K hK => ?_) AllReadyH.nil)
        go_simp
        refine (valuesOf_one (l := l) (fat_nx HF3.out e6) hn g2 n2 (by decide)).mono ?_
        rintro e v7w ⟨A2, c2, rfl, hr2, hb7⟩
        rw [HK2.out] at hr2 ⊢
        have e7 := e6.trans (hb7.mono e6.size)
        have rh := rown_weak hr2 e6.size
        have rs := row_nx rs hb7
        refine hK.out _ _ (HC.out _ e7) (fun hHeld => ?_)
        clear hK K
        try simp only [Act.put, List.setIfInBounds_toArray, List.set_cons_zero, List.set_cons_succ]
        refine wpAnyH_take (i := 6) (oi := { dst := some 6, op := Op.assign (Operand.tmp 25), type := 50, pos := "connect.go:54", after := #[{ on := 2, ground := Ground.data }, { on := 5, ground := Ground.chain }, { on := 0, ground := Ground.phase }, { on := 1, ground := Ground.phase }, { on := 2, ground := Ground.phase }, { on := 3, ground := Ground.textOnly Departure.lateStores }, { on := 4, ground := Ground.textOnly Departure.lateStores }, { on := 5, ground := Ground.textOnly Departure.lateStoresUnsure }], guard := none }) (v := ?v5) rfl (by kernel_rfl) (by kernel_rfl) (by kernel_rfl) (fun _ _ _ h => h) (Or.inl ⟨by rfl, ?y5⟩) hHeld ?r5
        case y5 => (intro W hSw; (try dsimp only at hSw); go_simp; try with_reducible rfl)
        try simp only [Act.put, List.setIfInBounds_toArray, List.set_cons_zero, List.set_cons_succ]
        refine wpAnyH_take (i := 7) (oi := { dst := some 7, op := Op.assign (Operand.tmp 28), type := 50, pos := "connect.go:54", after := #[{ on := 5, ground := Ground.data }, { on := 6, ground := Ground.chain }, { on := 0, ground := Ground.phase }, { on := 1, ground := Ground.phase }, { on := 2, ground := Ground.phase }, { on := 3, ground := Ground.phase }, { on := 4, ground := Ground.phase }, { on := 5, ground := Ground.phase }, { on := 6, ground := Ground.phase }], guard := none }) (v := ?v6) rfl (by kernel_rfl) (by kernel_rfl) (by kernel_rfl) (fun _ _ _ h => h) (Or.inl ⟨by rfl, ?y6⟩) hHeld ?r6
        case y6 => (intro W hSw; (try dsimp only at hSw); go_simp; try with_reducible rfl)
        try simp only [Act.put, List.setIfInBounds_toArray, List.set_cons_zero, List.set_cons_succ]
        refine wpAnyH_done (by kernel_rfl) ?_ _
        (try go_wp2_with fail)
        go_meet
        exact ⟨A1, c1, A2, c2, rfl, rfl, ⟨⟨rs, rh, e7⟩⟩⟩
    · go_simp
      have e8 : Below W3.heap.size W3 (W3.alloc (.cells #[.string ⟨#[72, 111, 112, 45, 84, 111, 107, 101, 110]⟩] 9)).drew := ((Below.refl _ _).alloc (Nat.le_refl _) _).drew
      have n2 : (W3.alloc (.cells #[.string ⟨#[72, 111, 112, 45, 84, 111, 107, 101, 110]⟩] 9)).drew.cell? ⟨W3.heap.size, 0, none⟩ = some (.string (S sHops)) := lit_cell W3 #[.string (S sHops)] 9 (0, 0) 0
      have g2 : W3.heap.size < (W3.alloc (.cells #[.string ⟨#[72, 111, 112, 45, 84, 111, 107, 101, 110]⟩] 9)).drew.heap.size := by show _ < (W3.alloc (.cells #[.string ⟨#[72, 111, 112, 45, 84, 111, 107, 101, 110]⟩] 9)).heap.size; simp
      refine hK.out _ _ (HC.out _ e8) (fun hHeld => ?_)
      clear hK K
      try simp only [Act.put, List.setIfInBounds_toArray, List.set_cons_zero, List.set_cons_succ]
      refine wpAnyH_ready (rs := [1]) (by kernel_rfl) (by simp) (AllReadyH.cons (o := { dst := some 24, op := Op.buildSlice 50 1 #[(0, Operand.const (Value.string { data := #[80, 114, 111, 120, 121, 45, 65, 117, 116, 104, 111, 114, 105, 122, 97, 116, 105, 111, 110] }))], type := 50, pos := "connect.go:54", after := #[], guard := none }) rfl (fun K hK => ?_) AllReadyH.nil)
      go_simp
      have e9 : Below W3.heap.size W3 ((W3.alloc (.cells #[.string ⟨#[72, 111, 112, 45, 84, 111, 107, 101, 110]⟩] 9)).alloc (.cells #[.string ⟨#[80, 114, 111, 120, 121, 45, 65, 117, 116, 104, 111, 114, 105, 122, 97, 116, 105, 111, 110]⟩] 9)).drew := (((Below.refl _ _).alloc (Nat.le_refl _) _).alloc (by simp) _).drew
      have n1 : ((W3.alloc (.cells #[.string ⟨#[72, 111, 112, 45, 84, 111, 107, 101, 110]⟩] 9)).alloc (.cells #[.string ⟨#[80, 114, 111, 120, 121, 45, 65, 117, 116, 104, 111, 114, 105, 122, 97, 116, 105, 111, 110]⟩] 9)).drew.cell? ⟨W3.heap.size + 1, 0, none⟩ = some (.string (S sSign)) := by have h := lit_cell (W3.alloc (.cells #[.string ⟨#[72, 111, 112, 45, 84, 111, 107, 101, 110]⟩] 9)) #[.string (S sSign)] 9 (0, 0) 0; rw [show (W3.alloc (.cells #[.string ⟨#[72, 111, 112, 45, 84, 111, 107, 101, 110]⟩] 9)).heap.size = W3.heap.size + 1 by simp] at h; exact h
      have g1 : W3.heap.size + 1 < ((W3.alloc (.cells #[.string ⟨#[72, 111, 112, 45, 84, 111, 107, 101, 110]⟩] 9)).alloc (.cells #[.string ⟨#[80, 114, 111, 120, 121, 45, 65, 117, 116, 104, 111, 114, 105, 122, 97, 116, 105, 111, 110]⟩] 9)).drew.heap.size := by show _ < ((W3.alloc (.cells #[.string ⟨#[72, 111, 112, 45, 84, 111, 107, 101, 110]⟩] 9)).alloc (.cells #[.string ⟨#[80, 114, 111, 120, 121, 45, 65, 117, 116, 104, 111, 114, 105, 122, 97, 116, 105, 111, 110]⟩] 9)).heap.size; simp
      have n2 : ((W3.alloc (.cells #[.string ⟨#[72, 111, 112, 45, 84, 111, 107, 101, 110]⟩] 9)).alloc (.cells #[.string ⟨#[80, 114, 111, 120, 121, 45, 65, 117, 116, 104, 111, 114, 105, 122, 97, 116, 105, 111, 110]⟩] 9)).drew.cell? ⟨W3.heap.size, 0, none⟩ = some (.string (S sHops)) := (Below.cell ((Below.refl ((W3.alloc (.cells #[.string ⟨#[72, 111, 112, 45, 84, 111, 107, 101, 110]⟩] 9))).heap.size (W3.alloc (.cells #[.string ⟨#[72, 111, 112, 45, 84, 111, 107, 101, 110]⟩] 9))).alloc (Nat.le_refl _) (.cells #[.string ⟨#[80, 114, 111, 120, 121, 45, 65, 117, 116, 104, 111, 114, 105, 122, 97, 116, 105, 111, 110]⟩] 9)) (by simp)).trans n2
      have g2 : W3.heap.size < ((W3.alloc (.cells #[.string ⟨#[72, 111, 112, 45, 84, 111, 107, 101, 110]⟩] 9)).alloc (.cells #[.string ⟨#[80, 114, 111, 120, 121, 45, 65, 117, 116, 104, 111, 114, 105, 122, 97, 116, 105, 111, 110]⟩] 9)).drew.heap.size := by show _ < ((W3.alloc (.cells #[.string ⟨#[72, 111, 112, 45, 84, 111, 107, 101, 110]⟩] 9)).alloc (.cells #[.string ⟨#[80, 114, 111, 120, 121, 45, 65, 117, 116, 104, 111, 114, 105, 122, 97, 116, 105, 111, 110]⟩] 9)).heap.size; simp; omega
      refine hK.out _ _ (HC.out _ e9) (fun hHeld => ?_)
      clear hK K
      try simp only [Act.put, List.setIfInBounds_toArray, List.set_cons_zero, List.set_cons_succ]
      refine wpAnyH_ready (rs := [2]) (by kernel_rfl) (by simp) (AllReadyH.cons (o := { dst := some 25, op := Op.call { callee := Callee.value (Operand.func 65), args := #[Operand.tmp 23, Operand.tmp 24], argTypes := #[47, 50] }, type := 50, pos := "connect.go:54", after := #[{ on := 0, ground := Ground.data }, { on := 1, ground := Ground.data }], guard := none }) rfl (fun K hK => ?_) AllReadyH.nil)
      go_simp
      refine (valuesOf_one (l := l) (fat_nx HF3.out e9) hn g1 n1 (by decide)).mono ?_
      rintro e v10w ⟨A1, c1, rfl, hr1, hb10⟩
      rw [HK1.out] at hr1 ⊢
      have e10 := e9.trans (hb10.mono e9.size)
      have rs := rown_weak hr1 e9.size
      have n2 := hd.cell_kept n2 hb10
      have g2 := Nat.lt_of_lt_of_le g2 hb10.size
      refine hK.out _ _ (HC.out _ e10) (fun hHeld => ?_)
      clear hK K
      try simp only [Act.put, List.setIfInBounds_toArray, List.set_cons_zero, List.set_cons_succ]
      refine wpAnyH_ready (rs := [5]) (by kernel_rfl) (by simp) (AllReadyH.cons (o := { dst := some 28, op := Op.call { callee := Callee.value (Operand.func 65), args := #[Operand.tmp 26, Operand.tmp 27], argTypes := #[47, 50] }, type := 50, pos := "connect.go:54", after := #[{ on := 3, ground := Ground.data }, { on := 4, ground := Ground.data }, { on := 2, ground := Ground.chain }], guard := none }) rfl (fun K hK => ?_) AllReadyH.nil)
      go_simp
      refine (valuesOf_one (l := l) (fat_nx HF3.out e10) hn g2 n2 (by decide)).mono ?_
      rintro e v11w ⟨A2, c2, rfl, hr2, hb11⟩
      rw [HK2.out] at hr2 ⊢
      have e11 := e10.trans (hb11.mono e10.size)
      have rh := rown_weak hr2 e10.size
      have rs := row_nx rs hb11
      refine hK.out _ _ (HC.out _ e11) (fun hHeld => ?_)
      clear hK K
      try simp only [Act.put, List.setIfInBounds_toArray, List.set_cons_zero, List.set_cons_succ]
      refine wpAnyH_take (i := 6) (oi := { dst := some 6, op := Op.assign (Operand.tmp 25), type := 50, pos := "connect.go:54", after := #[{ on := 2, ground := Ground.data }, { on := 5, ground := Ground.chain }, { on := 0, ground := Ground.phase }, { on := 1, ground := Ground.phase }, { on := 2, ground := Ground.phase }, { on := 3, ground := Ground.textOnly Departure.lateStores }, { on := 4, ground := Ground.textOnly Departure.lateStores }, { on := 5, ground := Ground.textOnly Departure.lateStoresUnsure }], guard := none }) (v := ?v7) rfl (by kernel_rfl) (by kernel_rfl) (by kernel_rfl) (fun _ _ _ h => h) (Or.inl ⟨by rfl, ?y7⟩) hHeld ?r7
      case y7 => (intro W hSw; (try dsimp only at hSw); go_simp; try with_reducible rfl)
      try simp only [Act.put, List.setIfInBounds_toArray, List.set_cons_zero, List.set_cons_succ]
      refine wpAnyH_take (i := 7) (oi := { dst := some 7, op := Op.assign (Operand.tmp 28), type := 50, pos := "connect.go:54", after := #[{ on := 5, ground := Ground.data }, { on := 6, ground := Ground.chain }, { on := 0, ground := Ground.phase }, { on := 1, ground := Ground.phase }, { on := 2, ground := Ground.phase }, { on := 3, ground := Ground.phase }, { on := 4, ground := Ground.phase }, { on := 5, ground := Ground.phase }, { on := 6, ground := Ground.phase }], guard := none }) (v := ?v8) rfl (by kernel_rfl) (by kernel_rfl) (by kernel_rfl) (fun _ _ _ h => h) (Or.inl ⟨by rfl, ?y8⟩) hHeld ?r8
      case y8 => (intro W hSw; (try dsimp only at hSw); go_simp; try with_reducible rfl)
      try simp only [Act.put, List.setIfInBounds_toArray, List.set_cons_zero, List.set_cons_succ]
      refine wpAnyH_done (by kernel_rfl) ?_ _
      (try go_wp2_with fail)
      go_meet
      exact ⟨A1, c1, A2, c2, rfl, rfl, ⟨⟨rs, rh, e11⟩⟩⟩
  case rest =>
    obtain ⟨As, c1, Ah, c2, rfl, rfl, HQ⟩ := hcut
    have HR5 := Bx.mk (HR3.out.below HQ.out.be HR3.out.lt)
    have HB5 := Bx.mk (HB3.out.below HQ.out.be HB3.out.lt)
    have HT5 := Bx.mk (HT3.out.below HQ.out.be HT3.out.lt)
    have HF5 := Bx.mk (fat_nx HF3.out HQ.out.be)
    have HBE5 := Bx.mk (HBE3.out.trans (HQ.out.be.mono HBE3.out.size))
    have HRS5 := Bx.mk (rown_weak HQ.out.rs HBE3.out.size)
    have HRH5 := Bx.mk (rown_weak HQ.out.rh HBE3.out.size)
    have x0 := HB5.out.cell 0; have x1 := HB5.out.cell 1
    simp at x0 x1
    have HV1 := Bx.mk (valuesOf_one (l := l) (w := wc.alloc (.cells #[.string ⟨#[72, 111, 115, 116]⟩] 9)) (fat_nx HF5.out ((Below.refl _ _).alloc (Nat.le_refl _) _)) hn (g := wc.heap.size) (s := sHost) (by simp) (lit_cell wc #[.string (S sHost)] 9 (0, 0) 0) (by decide))
    obtain ⟨kh, hkh⟩ : ∃ kh, (vs fs sHost).length = kh := ⟨_, rfl⟩
    obtain ⟨ks, hks⟩ : ∃ ks, (vs fs sSize ++ vs fs sCoded).length = ks := ⟨_, rfl⟩
    have hks2 : (vs fs sSize).length + (vs fs sCoded).length = ks := by rw [← List.length_append, hks]
    have HKH := Bx.mk hkh; have HKS := Bx.mk hks
    have hask := HAS.out
    rw [hkh, HK1.out, HK2.out, hks2] at hask
    clear HQ HR3 HB3 HT3 HF3 HBE3 HC b0 hkh hks hks2 HAS
    go_wp2_with fail
    refine HV1.out.mono ?_
    rintro e w5 ⟨A5, c5, rfl, hr5, hb5⟩
    rw [HKH.out] at hr5 ⊢
    have hb5a : Below wc.heap.size wc w5 := ((Below.refl wc.heap.size wc).alloc (Nat.le_refl _) _).trans (hb5.mono (by simp))
    have HR6 := Bx.mk (HR5.out.below hb5a HR5.out.lt)
    have HB6 := Bx.mk (HB5.out.below hb5a HB5.out.lt)
    have HT6 := Bx.mk (HT5.out.below hb5a HT5.out.lt)
    have HF6 := Bx.mk (fat_nx HF5.out hb5a)
    have HBE6 := Bx.mk (HBE5.out.trans (hb5a.mono HBE5.out.size))
    have HRS6 := Bx.mk (row_nx HRS5.out hb5a)
    have HRH6 := Bx.mk (row_nx HRH5.out hb5a)
    clear HR5 HB5 HT5 HF5 HBE5 HRS5 HRH5 HV1 hb5 hb5a hr5 x0 x1
    by_cases q1 : kh = 1
    · have qa : ((kh : Int) != 1) = false := by simp; omega
      by_cases q2 : 1 < k1
      · have qb : (1 : Int) < (k1 : Int) := by omega
        have HA := Bx.mk (ask_bad HR6.out HBE6.out (by omega) (l := l) (fs := fs) (k := 6) (by rw [hask, if_pos (.inr (.inl q2))]))
        obtain ⟨r0, r1, r2, r3, r4, r5, r6, r7⟩ := eight HR6.out
        have f0 := HR6.out.frozen 0; have f1 := HR6.out.frozen 1; have f2 := HR6.out.frozen 2; have f3 := HR6.out.frozen 3
        have f4 := HR6.out.frozen 4; have f5 := HR6.out.frozen 5; have f6 := HR6.out.frozen 6; have f7 := HR6.out.frozen 7
        clear hask q1 q2
        go_wp2_with fail
        exact bodyPost_ret (results_asked HA.out.1 _ rfl rfl) rfl HA.out.2
      have qb : ¬ (1 : Int) < (k1 : Int) := by omega
      by_cases q3 : 1 < k2
      · have qc : (1 : Int) < (k2 : Int) := by omega
        have HA := Bx.mk (ask_bad HR6.out HBE6.out (by omega) (l := l) (fs := fs) (k := 6) (by rw [hask, if_pos (.inr (.inr (.inl q3)))]))
        obtain ⟨r0, r1, r2, r3, r4, r5, r6, r7⟩ := eight HR6.out
        have f0 := HR6.out.frozen 0; have f1 := HR6.out.frozen 1; have f2 := HR6.out.frozen 2; have f3 := HR6.out.frozen 3
        have f4 := HR6.out.frozen 4; have f5 := HR6.out.frozen 5; have f6 := HR6.out.frozen 6; have f7 := HR6.out.frozen 7
        clear hask q1 q2 q3
        go_wp2_with fail
        exact bodyPost_ret (results_asked HA.out.1 _ rfl rfl) rfl HA.out.2
      have qc : ¬ (1 : Int) < (k2 : Int) := by omega
      have HV2 := Bx.mk (valuesOf_two (l := l) (w := w5.alloc (.cells #[.string ⟨#[67, 111, 110, 116, 101, 110, 116, 45, 76, 101, 110, 103, 116, 104]⟩, .string ⟨#[84, 114, 97, 110, 115, 102, 101, 114, 45, 69, 110, 99, 111, 100, 105, 110, 103]⟩] 9)) (fat_nx HF6.out ((Below.refl _ _).alloc (Nat.le_refl _) _)) hn (g := w5.heap.size) (s := sSize) (t := sCoded) (by simp) (lit_cell w5 #[.string (S sSize), .string (S sCoded)] 9 (0, 0) 0) (lit_cell w5 #[.string (S sSize), .string (S sCoded)] 9 (0, 0) 1) (by decide) (by decide))
      have x0 := HB6.out.cell 0; have x1 := HB6.out.cell 1
      simp at x0 x1
      go_wp2_with fail
      refine HV2.out.mono ?_
      rintro e w7 ⟨A7, c7, rfl, hr7, hb7⟩
      rw [HKS.out] at hr7 ⊢
      have hb7a : Below w5.heap.size w5 w7 := ((Below.refl w5.heap.size w5).alloc (Nat.le_refl _) _).trans (hb7.mono (by simp))
      have HR8 := Bx.mk (HR6.out.below hb7a HR6.out.lt)
      have HT8 := Bx.mk (HT6.out.below hb7a HT6.out.lt)
      have HBE8 := Bx.mk (HBE6.out.trans (hb7a.mono HBE6.out.size))
      have HRS8 := Bx.mk (row_nx HRS6.out hb7a)
      have HRH8 := Bx.mk (row_nx HRH6.out hb7a)
      clear HR6 HB6 HT6 HF6 HBE6 HRS6 HRH6 HV2 hb7 hb7a hr7 x0 x1
      by_cases q4 : 0 < ks
      · have qd : (0 : Int) < (ks : Int) := by omega
        have HA := Bx.mk (ask_bad HR8.out HBE8.out (by omega) (l := l) (fs := fs) (k := 6) (by rw [hask, if_pos (.inr (.inr (.inr q4)))]))
        obtain ⟨r0, r1, r2, r3, r4, r5, r6, r7⟩ := eight HR8.out
        have f0 := HR8.out.frozen 0; have f1 := HR8.out.frozen 1; have f2 := HR8.out.frozen 2; have f3 := HR8.out.frozen 3
        have f4 := HR8.out.frozen 4; have f5 := HR8.out.frozen 5; have f6 := HR8.out.frozen 6; have f7 := HR8.out.frozen 7
        clear hask q1 q2 q3 q4
        go_wp2_with fail
        exact bodyPost_ret (results_asked HA.out.1 _ rfl rfl) rfl HA.out.2
      rw [if_neg (by omega)] at hask
      obtain rfl : ks = 0 := by omega
      have HAK := Bx.mk hask
      have d0 := HT8.out.cell 0; have d1 := HT8.out.cell 1; have d2 := HT8.out.cell 2
      simp at d0 d1 d2
      have hb8 : Below w7.heap.size w7 (w7.alloc (.cells #[.int .u8 tk, .string tt, .int .i64 tp, .bool false, .string ⟨#[]⟩, .string ⟨#[]⟩, .bool false, .string ⟨#[]⟩] 27)) := (Below.refl _ _).alloc (Nat.le_refl _) _
      have H0 : Bx (AS w (w7.alloc (.cells #[.int .u8 tk, .string tt, .int .i64 tp, .bool false, .string ⟨#[]⟩, .string ⟨#[]⟩, .bool false, .string ⟨#[]⟩] 27)) w7.heap.size tk tt tp ([], [], false) (false, []) As k1 c1 Ah k2 c2 (vs fs sSign) (vs fs sHops)) := ⟨⟨HR8.out.below hb8 HR8.out.lt, Lies.new _ _ _, row_nx HRS8.out hb8, row_nx HRH8.out hb8, HBE8.out.trans (hb8.mono HBE8.out.size), by have := HR8.out.lt; omega⟩⟩
      have hk1' : k1 ≤ 1 := by omega
      have hk2' : k2 ≤ 1 := by omega
      clear hask q1 q2 q3 q4 hb8 HR8 HT8 HBE8 HRS8 HRH8
      go_upto_region 8 with fail
      clear qa qb qc d0 d1 d2
      generalize w7.alloc (.cells #[.int .u8 tk, .string tt, .int .i64 tp, .bool false, .string ⟨#[]⟩, .string ⟨#[]⟩, .bool false, .string ⟨#[]⟩] 27) = W8 at *
      generalize w7.heap.size = g8 at *
      go_wp2_with fail
      go_loopw [56] (fun s56 wr => ∃ (i : Nat) (cr : Str × Str × Bool), i ≤ k1 ∧ s56 = .int .i64 (i : Int) ∧ Bx (cr = if i = 0 then ([], [], false) else credOf (vs fs sSign)) ∧ Bx (AS w wr g8 tk tt tp cr (false, []) As k1 c1 Ah k2 c2 (vs fs sSign) (vs fs sHops))) (fun s56 _ => k1 - (intOf s56).toNat)
      case atStart => exact ⟨0, _, by omega, rfl, ⟨rfl⟩, H0⟩
      case round =>
        clear H0
        obtain ⟨i, cr, hi, rfl, HCR, H⟩ := hrel
        by_cases hlt : i < k1
        · obtain rfl : i = 0 := by omega
          obtain ⟨v, hx⟩ : ∃ v, (vs fs sSign)[0]? = some v := ⟨_, List.getElem?_eq_getElem (by rw [HK1.out]; exact hlt)⟩
          obtain ⟨gs, rfl, hc⟩ := row_cell H.out.rs HK1.out hx
          have hvl := vs_mem (List.mem_of_getElem? hx) HVL.out
          have hcred : credOf (vs fs sSign) = cred v := by
            match h : vs fs sSign, hx with
            | y :: r, hx => simp at hx; subst hx; rfl
          have HCd := Bx.mk (credentials_any (HE.out.below H.out.be) v hvl)
          obtain ⟨us, ps, ok, hcv⟩ : ∃ us ps ok, cred v = (us, ps, ok) := ⟨_, _, _, rfl⟩
          have hv2 : CrV (cred v) = .tuple #[.string (S us), .string (S ps), .bool ok] := by rw [hcv]; rfl
          rw [hv2] at HCd
          have HCR2 : Bx ((us, ps, ok) = if 0 + 1 = 0 then ([], [], false) else credOf (vs fs sSign)) := ⟨by rw [if_neg (by omega), hcred, hcv]⟩
          have i1 : (0 : Int) < (k1 : Int) := by omega
          clear hx hvl hcred hcv hv2
          go_wp2_with fail
          refine HCd.out.mono ?_
          rintro e w9 ⟨rfl, hb9⟩
          have H9 := Bx.mk (H.out.next hb9)
          have HNX := Bx.mk (H9.out.cred (us, ps, ok))
          have z3 := H9.out.loc.cell 3; have z4 := H9.out.loc.cell 4; have z5 := H9.out.loc.cell 5
          have f3 := H9.out.loc.frozen 3; have f4 := H9.out.loc.frozen 4; have f5 := H9.out.loc.frozen 5
          simp at z3 z4 z5
          clear hb9 hc HCd
          go_wp2_with fail
          go_roundw
          case rel => exact ⟨0 + 1, (us, ps, ok), by omega, by go_num, HCR2, HNX⟩
          case measure => simp [intOf]; omega
        · obtain rfl : k1 = i := by omega
          have hcr2 : cr = credOf (vs fs sSign) := by
            rw [HCR.out]
            by_cases h0 : k1 = 0
            · rw [if_pos h0]
              have : vs fs sSign = [] := List.eq_nil_of_length_eq_zero (by rw [HK1.out, h0])
              rw [this]
              rfl
            · rw [if_neg h0]
          subst hcr2
          have HJ : Bx (AS w wr g8 tk tt tp (credOf (vs fs sSign)) (false, []) As k1 c1 Ah k2 c2 (vs fs sSign) (vs fs sHops)) := H
          have i1 : ¬ (k1 : Int) < (k1 : Int) := by omega
          clear H HCR hlt
          obtain ⟨cr, hcr⟩ : ∃ cr, credOf (vs fs sSign) = cr := ⟨_, rfl⟩
          rw [hcr] at HJ
          have HCr := Bx.mk hcr
          clear hcr
          go_wp2_with fail
          go_loopw [72] (fun s72 wr => ∃ (i : Nat) (hp : Bool × Str), i ≤ k2 ∧ s72 = .int .i64 (i : Int) ∧ Bx (hp = if i = 0 then (false, []) else hopOf (vs fs sHops)) ∧ Bx (AS w wr g8 tk tt tp cr hp As k1 c1 Ah k2 c2 (vs fs sSign) (vs fs sHops))) (fun s72 _ => k2 - (intOf s72).toNat)
          case atStart => exact ⟨0, _, by omega, rfl, ⟨rfl⟩, HJ⟩
          case round =>
            clear HJ
            obtain ⟨i, hp, hi, rfl, HHP, H⟩ := hrel
            by_cases hlt : i < k2
            · obtain rfl : i = 0 := by omega
              obtain ⟨v, hx⟩ : ∃ v, (vs fs sHops)[0]? = some v := ⟨_, List.getElem?_eq_getElem (by rw [HK2.out]; exact hlt)⟩
              obtain ⟨gs, rfl, hc⟩ := row_cell H.out.rh HK2.out hx
              have hhop : hopOf (vs fs sHops) = (true, v) := by
                match h : vs fs sHops, hx with
                | y :: r, hx => simp at hx; subst hx; rfl
              have HHP2 : Bx ((true, v) = if 0 + 1 = 0 then (false, []) else hopOf (vs fs sHops)) := ⟨by rw [if_neg (by omega), hhop]⟩
              have HNX := Bx.mk (H.out.hop v)
              have i1 : (0 : Int) < (k2 : Int) := by omega
              have z6 := H.out.loc.cell 6; have z7 := H.out.loc.cell 7
              have f6 := H.out.loc.frozen 6; have f7 := H.out.loc.frozen 7
              simp at z6 z7
              clear hx hhop
              go_wp2_with fail
              go_roundw
              case rel => exact ⟨0 + 1, (true, v), by omega, by go_num, HHP2, HNX⟩
              case measure => simp [intOf]; omega
            · obtain rfl : k2 = i := by omega
              have hhp2 : hp = hopOf (vs fs sHops) := by
                rw [HHP.out]
                by_cases h0 : k2 = 0
                · rw [if_pos h0]
                  have : vs fs sHops = [] := List.eq_nil_of_length_eq_zero (by rw [HK2.out, h0])
                  rw [this]
                  rfl
                · rw [if_neg h0]
              have i1 : ¬ (k2 : Int) < (k2 : Int) := by omega
              obtain ⟨l0, l1, l2, l3, l4, l5, l6, l7⟩ := eight H.out.loc
              obtain ⟨r0, r1, r2, r3, r4, r5, r6, r7⟩ := eight H.out.res
              have f0 := H.out.res.frozen 0; have f1 := H.out.res.frozen 1; have f2 := H.out.res.frozen 2; have f3 := H.out.res.frozen 3
              have f4 := H.out.res.frozen 4; have f5 := H.out.res.frozen 5; have f6 := H.out.res.frozen 6; have f7 := H.out.res.frozen 7
              have HPut := Bx.mk (ask_put H.out.res H.out.be (by omega) (.int .u8 tk) (.string tt) (.int .i64 tp) (.bool cr.2.2) (.string (S cr.1)) (.string (S cr.2.1)) (.bool hp.1) (.string (S hp.2)))
              have HF : Bx (AskTo l fs w (.returned (.tuple #[.agg #[.int .u8 tk, .string tt, .int .i64 tp, .bool cr.2.2, .string (S cr.1), .string (S cr.2.1), .bool hp.1, .string (S hp.2)], .int .i64 0])) (put8 wr (w.heap.size + 1) (.int .u8 tk) (.string tt) (.int .i64 tp) (.bool cr.2.2) (.string (S cr.1)) (.string (S cr.2.1)) (.bool hp.1) (.string (S hp.2)))) := ⟨⟨by rw [HAK.out, HCr.out, ← hhp2, ← HTK.out, ← HTT.out, ← HTP.out]; rfl, HPut.out.2⟩⟩
              generalize cr.2.2 = crc at *
              generalize S cr.1 = cra at *
              generalize S cr.2.1 = crb at *
              generalize hp.1 = hpa at *
              generalize S hp.2 = hpb at *
              clear hhp2 H HHP hlt
              go_wp2_with fail
              exact bodyPost_ret (results_asked HPut.out.1 _ rfl rfl) rfl HF.out
    · have qa : ((kh : Int) != 1) = true := by simp; omega
      have HA := Bx.mk (ask_bad HR6.out HBE6.out (by omega) (l := l) (fs := fs) (k := 6) (by rw [hask, if_pos (.inl q1)]))
      obtain ⟨r0, r1, r2, r3, r4, r5, r6, r7⟩ := eight HR6.out
      have f0 := HR6.out.frozen 0; have f1 := HR6.out.frozen 1; have f2 := HR6.out.frozen 2; have f3 := HR6.out.frozen 3
      have f4 := HR6.out.frozen 4; have f5 := HR6.out.frozen 5; have f6 := HR6.out.frozen 6; have f7 := HR6.out.frozen 7
      clear hask q1
      go_wp2_with fail
      exact bodyPost_ret (results_asked HA.out.1 _ rfl rfl) rfl HA.out.2
end Go.Proofs.YtghdaengkgiekaaGreatDoor.cn
