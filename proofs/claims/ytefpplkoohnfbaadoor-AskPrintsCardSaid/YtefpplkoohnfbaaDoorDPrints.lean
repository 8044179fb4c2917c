/-
  Given for the seat's laws: AskPrints at any target and code. No condition but those of the theorem.
-/
import Derived.Test.YtefpplkoohnfbaaDoorDRef
import Derived.Deep.RegionWith
import Derived.Deep.RegionHeld3
namespace Go.Proofs.YtefpplkoohnfbaaDoor.ak
open Go.RowKit mem hostp hw own
set_option linter.unusedVariables false

def True_ (w : World) (e : Ending) (w' : World) : Prop := e = .returned (.bool true) ∧ Below w.heap.size w w'
/-- bytes of the call's own, each with a number, whichever -/
structure Inc (w1 wr : World) (A : Option Addr) (n : Nat) : Prop where
  below : Below w1.heap.size w1 wr
  cells : 0 < n → ∃ g cur, A = some ⟨g, 0, none⟩ ∧ w1.heap.size ≤ g ∧ Lies wr g 5 cur ∧ ∀ j, j < n → ∃ z, cur[j]? = some (.int .u8 z)
theorem Made.inc {w1 w2 : World} {A : Option Addr} {n c : Nat} {l : Str} (h : Made w1 w2 (.slice A n c) l) (hn : l.length = n) : Inc w1 w2 A n := by
  refine ⟨h.below, fun hp => ?_⟩
  rcases h.own.2 with ⟨hv, _⟩ | ⟨g, cap, cur, hv, hb, hh, hnc, hm, hs, ht⟩
  · simp only [Value.slice.injEq] at hv
    omega
  · simp only [Value.slice.injEq] at hv
    obtain ⟨rfl, _, _⟩ := hv
    refine ⟨g, cur, rfl, hb, hh, fun j hj => ?_⟩
    have hz : (B8 (ints l))[j]? = some (.int .u8 ((l[j]'(by omega)).toNat : Int)) := by simp [B8, ints, hj, hn]
    rw [← ht, Nat.mul_one, List.getElem?_take] at hz
    split at hz
    · exact ⟨_, by simpa using hz⟩
    · cases hz
theorem Inc.fresh {w1 wr wz : World} {A : Option Addr} {n : Nat} (h : Inc w1 wr A n) (hb : Below wr.heap.size wr wz) : Inc w1 wz A n := by
  refine ⟨h.below.trans (hb.mono h.below.size), fun hp => ?_⟩
  obtain ⟨g, cur, e, hg, hl, hc⟩ := h.cells hp
  exact ⟨g, cur, e, hg, hl.below hb hl.lt, hc⟩
theorem Inc.at {w1 wr : World} {A : Option Addr} {n : Nat} (h : Inc w1 wr A n) {i : Nat} (hi : i < n) : ∃ g z, A = some ⟨g, 0, none⟩ ∧ w1.heap.size ≤ g ∧ wr.cell? ⟨g, i, none⟩ = some (.int .u8 z) ∧ wr.frozen? ⟨g, i, none⟩ = false ∧ ∀ y, Inc w1 (wr.setCell ⟨g, i, none⟩ (.int .u8 y)) A n := by
  obtain ⟨g, cur, rfl, hg, hl, hc⟩ := h.cells (by omega)
  obtain ⟨z, hz⟩ := hc i hi
  refine ⟨g, z, rfl, hg, by rw [hl.cell]; exact hz, hl.frozen i, fun y => ⟨h.below.setCell hg _, fun _ => ⟨g, _, rfl, hg, hl.set i _, fun j hj => ?_⟩⟩⟩
  obtain ⟨u, hu⟩ := hc j hj
  have hsz := (Array.getElem?_eq_some_iff.1 hu).1
  by_cases e : i = j
  · subst e; exact ⟨y, by simp [hsz]⟩
  · exact ⟨u, by simp [e, hu]⟩

theorem Made.conv {w w1 : World} {A : Option Addr} {n c : Nat} {l : Str} (h : Made w w1 (.slice A n c) l) (hn : l.length = n) {W : World} (hb : Below w1.heap.size w1 W) : (convert 26 9 (.slice A n c)).run Tryd.prog W = .ok (.string (S l)) W :=
  spell_str (made_spell (h.fresh hb) hn)
/-- both rows, each with its numbers, apart -/
structure TwoI (w wr : World) (A : Option Addr) (n : Nat) (B : Option Addr) (m : Nat) : Prop where
  a : Inc w wr A n
  b : Inc w wr B m
  ap : ∀ g, A = some ⟨g, 0, none⟩ → B = some ⟨g, 0, none⟩ → False
theorem Inc.far {w1 wr : World} {A : Option Addr} {n : Nat} (h : Inc w1 wr A n) {g i : Nat} (hg : w1.heap.size ≤ g) (hne : A ≠ some ⟨g, 0, none⟩) (v : Value) : Inc w1 (wr.setCell ⟨g, i, none⟩ v) A n := by
  refine ⟨h.below.setCell hg _, fun hp => ?_⟩
  obtain ⟨g', cur, rfl, hg', hl, hc⟩ := h.cells hp
  exact ⟨g', cur, rfl, hg', hl.far (fun e => hne (by rw [e])) v, hc⟩
section
variable {w wr wz : World} {A B : Option Addr} {n m : Nat}
theorem TwoI.fresh (h : TwoI w wr A n B m) (hb : Below wr.heap.size wr wz) : TwoI w wz A n B m := ⟨h.a.fresh hb, h.b.fresh hb, h.ap⟩
theorem TwoI.atA (h : TwoI w wr A n B m) {i : Nat} (hi : i < n) : ∃ g z, A = some ⟨g, 0, none⟩ ∧ wr.cell? ⟨g, i, none⟩ = some (.int .u8 z) ∧ wr.frozen? ⟨g, i, none⟩ = false ∧ ∀ y, TwoI w (wr.setCell ⟨g, i, none⟩ (.int .u8 y)) A n B m := by
  obtain ⟨g, z, e, hg, hc, hf, hs⟩ := h.a.at hi
  exact ⟨g, z, e, hc, hf, fun y => ⟨hs y, h.b.far hg (fun e' => h.ap g e e') _, h.ap⟩⟩
theorem TwoI.atB (h : TwoI w wr A n B m) {i : Nat} (hi : i < m) : ∃ g z, B = some ⟨g, 0, none⟩ ∧ wr.cell? ⟨g, i, none⟩ = some (.int .u8 z) ∧ wr.frozen? ⟨g, i, none⟩ = false ∧ ∀ y, TwoI w (wr.setCell ⟨g, i, none⟩ (.int .u8 y)) A n B m := by
  obtain ⟨g, z, e, hg, hc, hf, hs⟩ := h.b.at hi
  exact ⟨g, z, e, hc, hf, fun y => ⟨h.a.far hg (fun e' => h.ap g e' e) _, hs y, h.ap⟩⟩
end
theorem two_of {w w1 w2 : World} {A B : Option Addr} {n m c d : Nat} {l k : Str} (ha : Made w w1 (.slice A n c) l) (hl : l.length = n) (hb : Made w1 w2 (.slice B m d) k) (hk : k.length = m) : TwoI w w2 A n B m := by
  refine ⟨Made.inc (Made.fresh ha hb.below) hl, Made.inc (Made.base hb ha.below) hk, fun g ea eb => ?_⟩
  have h1 := own_lt ha.own (g := g) (by rw [ea]; rfl)
  have h2 := own_lt hb.own (g := g) (by rw [eb]; rfl)
  omega

theorem pk_max (k : Int) (x : Str) (p : Int) : (pk k x p).1.length ≤ 1000 := by
  unfold pk
  split
  · next h =>
    obtain ⟨h1, h2, h3⟩ := mayT_port h
    show (pr k.toNat x p.toNat).length ≤ 1000
    rw [pr_len]
    have hd : hdn k.toNat ≤ 5 := by unfold hdn; split <;> (try split) <;> omega
    rcases may_fits h1 with ⟨_, hx⟩ | ⟨_, hx⟩ | ⟨_, hx⟩
    · omega
    · omega
    · have := name_len hx
      omega
  · exact Nat.zero_le _
theorem print_as {k : Int} {x : Str} {p : Int} (h0 : 0 ≤ k) {l : Str} {q : Nat} (h : pk k x p = (l, q)) (w : World) : Calls Tryd.prog 5 #[tv k (S x) p] w (PrintAs l l.length q w) := by
  have := print_any k x p h0 w
  rw [h] at this
  exact this
theorem rprint_as {k : Int} {x : Str} {p : Int} (h0 : 0 ≤ k) {l : Str} {q : Nat} (h : pk k x p = (l, q)) (w : World) : Calls Tryd.prog 4 #[tv k (S x) p] w (PrintAs l l.length q w) := by
  have := rprint_any k x p h0 w
  rw [h] at this
  exact this
def AnsOf (l : Str) (w : World) (e : Ending) (w' : World) : Prop := ∃ A c, e = .returned (.slice A 10 c) ∧ Made w w' (.slice A (10 : Nat) c) l

set_option maxHeartbeats 8000000 in
set_option maxRecDepth 100000 in
theorem prints_walk {w : World} {k : Int} {x : Str} {p : Int} (h0 : 0 ≤ k) {d : Nat} (hd : d < 256) (hN : Nums w) : Calls Tryd.prog 3 #[tv k (S x) p, .int .u8 (d : Int)] w (True_ w) := by
  have hb0 : Below w.heap.size w (w.alloc (.cells #[.int .u8 k, .string (S x), .int .i64 p] 25)) := (Below.refl _ _).alloc (Nat.le_refl _) _
  have hl0 := Lies.new w 25 #[.int .u8 k, .string (S x), .int .i64 p]
  have hsz := S_size x
  have HB0 := Bx.mk hb0
  have HL0 := Bx.mk hl0
  have HN0 := Bx.mk (hN.below hb0 (Nat.le_refl _))
  clear hN hb0 hl0
  by_cases hx : 1000 < x.length
  · have hx' : (1000 : Int) < (x.length : Int) := by omega
    unfold tv
    go_enter Tryd.func3, Tryd.ntmps3
    go_wp2_with fail
    go_ret
    exact ⟨rfl, HB0.out⟩
  have hx' : ¬ (1000 : Int) < (x.length : Int) := by omega
  clear hx
  obtain ⟨l, q, hpk⟩ : ∃ l q, pk k x p = (l, q) := ⟨_, _, rfl⟩
  have hk1 : l.length ≤ 1000 := by have := pk_max k x p; rw [hpk] at this; exact this
  have HP := Bx.mk (fun w => print_as h0 hpk w)
  have HRP := Bx.mk (fun w => rprint_as h0 hpk w)
  obtain ⟨y, hy⟩ : ∃ y, y = rpl (num d) := ⟨_, rfl⟩
  have HA : Bx (∀ w, Nums w → Calls Tryd.prog 6 #[.int .u8 (d : Int)] w (AnsOf y w)) := ⟨fun w hN => by rw [hy]; exact reply_any d hd w hN⟩
  have HR : Bx (∀ w, Calls Tryd.prog 7 #[.int .u8 (d : Int)] w (AnsOf y w)) := ⟨fun w => by rw [hy]; exact rreply_any d hd w⟩
  have HNU : Bx (∀ w, Nums w → Calls Tryd.prog 8 #[.int .u8 (d : Int)] w fun e w' => e = .returned (.int .u8 (num d : Int)) ∧ w' = w) := ⟨fun w hN => number_any d hd w hN⟩
  have HRN : Bx (∀ w, Calls Tryd.prog 9 #[.int .u8 (d : Int)] w (Gives (.int .u8 (num d : Int)) w)) := ⟨fun w => rnumber_any d hd w⟩
  have HXL : Bx (y.length = 10) := ⟨by rw [hy]; rfl⟩
  obtain ⟨n, hn⟩ : ∃ n, l.length = n := ⟨_, rfl⟩
  rw [hn] at HP HRP hk1
  have HLK := Bx.mk hn
  have hs1 := (str_eq l).1
  have hs2 := (str_eq l).2
  have hs3 := (str_eq y).1
  have hs4 := (str_eq y).2
  clear hpk hn hy
  generalize (num d : Int) = z at *
  unfold tv at HP HRP ⊢
  go_enter Tryd.func3, Tryd.ntmps3
  go_upto_region 3 with fail
  obtain ⟨W0, hW0⟩ : ∃ W0, W0 = w.alloc (.cells #[.int .u8 k, .string (S x), .int .i64 p] 25) := ⟨_, rfl⟩
  rw [← hW0] at HB0 HL0 HN0 ⊢
  clear hW0
  have c0 := HL0.out.cell 0; have c1 := HL0.out.cell 1; have c2 := HL0.out.cell 2
  simp at c0 c1 c2
  go_wp2_with fail
  refine (HRP.out _).mono ?_
  rintro e w1 ⟨A5, c5, rfl, hm1⟩
  have HM1 := Bx.mk hm1
  clear hm1 HRP c0 c1 c2
  go_wp2_with fail
  go_loopw [7, 8, 9, 10, 11, 12] (fun s7 s8 s9 s10 s11 s12 wr => ∃ i : Nat, i ≤ 2 ∧ s7 = .int .i64 (i : Int) ∧ Bx (Made W0 wr (.slice A5 n c5) l)) (fun s7 _ _ _ _ _ _ => 2 - (intOf s7).toNat)
  case atStart => exact ⟨0, Nat.zero_le _, rfl, HM1⟩
  case round =>
    clear HM1
    obtain ⟨wo, rfl⟩ : ∃ x, x = wr := ⟨wr, rfl⟩
    obtain ⟨i, hi, rfl, HM⟩ := hrel
    by_cases hlt : i < 2
    · have hlt' : (i : Int) < 2 := by omega
      have hl1 := HL0.out.below HM.out.below HL0.out.lt
      have c0 := hl1.cell 0; have c1 := hl1.cell 1; have c2 := hl1.cell 2
      simp at c0 c1 c2
      clear hl1
      go_wp2_with fail
      refine (HP.out _).mono ?_
      rintro e w3 ⟨A8, c8, rfl, hm3⟩
      have HM3 := Bx.mk hm3
      have HN3 := Bx.mk (HN0.out.below (HM.out.below.trans (hm3.below.mono HM.out.below.size)) (Nat.le_refl _))
      clear hm3 c0 c1 c2
      go_wp2_with fail
      refine (HA.out _ HN3.out).mono ?_
      rintro e w4 ⟨A10, c10, rfl, hm4⟩
      have HTW := Bx.mk (two_of HM3.out HLK.out hm4 HXL.out)
      have HM4 := Bx.mk hm4
      have HN4 := Bx.mk (HN3.out.below hm4.below (Nat.le_refl _))
      have HM34 := Bx.mk (HM3.out.fresh hm4.below)
      have HM4w := Bx.mk (HM.out.fresh HM34.out.below)
      clear hm4 HM3 HN3
      go_upto_region 9 with fail
      go_cut [58] (fun s58 wx => s58 = .bool false ∧ Bx (Below w4.heap.size w4 wx))
      case first =>
        have HC : Bx (∀ W', Below w4.heap.size w4 W' → (convert 26 9 (.slice A8 n c8)).run Tryd.prog W' = .ok (.string (S l)) W' ∧ (convert 26 9 (.slice A5 n c5)).run Tryd.prog W' = .ok (.string (S l)) W' ∧ (convert 26 9 (.slice A10 10 c10)).run Tryd.prog W' = .ok (.string (S y)) W') := ⟨fun W' hb => ⟨Made.conv HM34.out HLK.out hb, Made.conv HM4w.out HLK.out hb, Made.conv HM4.out HXL.out hb⟩⟩
        have bb : Below w4.heap.size w4 w4.drew := (Below.refl _ w4).drew
        clear HM34 HM4 HM4w HM HTW HP HA
        refine wp_region_held_drew (S := fun W' => (convert 26 9 (.slice A8 n c8)).run Tryd.prog W' = .ok (.string (S l)) W' ∧ (convert 26 9 (.slice A5 n c5)).run Tryd.prog W' = .ok (.string (S l)) W' ∧ (convert 26 9 (.slice A10 10 c10)).run Tryd.prog W' = .ok (.string (S y)) W') (by kernel_rfl) (HC.out _ bb) (fun hHeld => ?_)
        refine wpAnyH_take (i := 0) (oi := { dst := some 34, op := Op.move (Operand.tmp 8), type := 26, pos := "law.go:32", after := #[], guard := none }) (v := ?v1) rfl (by kernel_rfl) (by kernel_rfl) (by kernel_rfl) (fun _ _ _ h => h) (Or.inl ⟨by rfl, ?y1⟩) hHeld ?r1
        case y1 => (intro W hSw; (try dsimp only at hSw); go_simp; try with_reducible rfl)
        try simp only [Act.put, List.setIfInBounds_toArray, List.set_cons_zero, List.set_cons_succ]
        refine wpAnyH_take (i := 1) (oi := { dst := some 35, op := Op.convert 26 9 (Operand.tmp 34), type := 9, pos := "law.go:32", after := #[{ on := 0, ground := Ground.data }], guard := none }) (v := ?v2) rfl (by kernel_rfl) (by kernel_rfl) (by kernel_rfl) (fun _ _ _ h => h) (Or.inl ⟨by rfl, ?y2⟩) hHeld ?r2
        case y2 => (intro W hSw; (try dsimp only at hSw); go_simp; try with_reducible rfl)
        try simp only [Act.put, List.setIfInBounds_toArray, List.set_cons_zero, List.set_cons_succ]
        refine wpAnyH_take (i := 2) (oi := { dst := some 36, op := Op.move (Operand.tmp 5), type := 26, pos := "law.go:32", after := #[], guard := none }) (v := ?v3) rfl (by kernel_rfl) (by kernel_rfl) (by kernel_rfl) (fun _ _ _ h => h) (Or.inl ⟨by rfl, ?y3⟩) hHeld ?r3
        case y3 => (intro W hSw; (try dsimp only at hSw); go_simp; try with_reducible rfl)
        try simp only [Act.put, List.setIfInBounds_toArray, List.set_cons_zero, List.set_cons_succ]
        refine wpAnyH_take (i := 3) (oi := { dst := some 37, op := Op.convert 26 9 (Operand.tmp 36), type := 9, pos := "law.go:32", after := #[{ on := 2, ground := Ground.data }], guard := none }) (v := ?v4) rfl (by kernel_rfl) (by kernel_rfl) (by kernel_rfl) (fun _ _ _ h => h) (Or.inl ⟨by rfl, ?y4⟩) hHeld ?r4
        case y4 => (intro W hSw; (try dsimp only at hSw); go_simp; try with_reducible rfl)
        try simp only [Act.put, List.setIfInBounds_toArray, List.set_cons_zero, List.set_cons_succ]
        refine wpAnyH_take (i := 4) (oi := { dst := some 38, op := Op.binOp BinOp.neq 9 (Operand.tmp 35) (Operand.tmp 37) 9, type := 4, pos := "law.go:32", after := #[{ on := 1, ground := Ground.data }, { on := 3, ground := Ground.data }], guard := none }) (v := ?v5) rfl (by kernel_rfl) (by kernel_rfl) (by kernel_rfl) (fun _ _ _ h => h) (Or.inl ⟨by rfl, ?y5⟩) hHeld ?r5
        case y5 => (intro W hSw; (try dsimp only at hSw); go_simp; try with_reducible rfl)
        try simp only [Act.put, List.setIfInBounds_toArray, List.set_cons_zero, List.set_cons_succ]
        refine wpAnyH_take (i := 5) (oi := { dst := some 39, op := Op.move (Operand.tmp 38), type := 4, pos := "law.go:32", after := #[{ on := 4, ground := Ground.data }], guard := none }) (v := ?v6) rfl (by kernel_rfl) (by kernel_rfl) (by kernel_rfl) (fun _ _ _ h => h) (Or.inl ⟨by rfl, ?y6⟩) hHeld ?r6
        case y6 => (intro W hSw; (try dsimp only at hSw); go_simp; try with_reducible rfl)
        try simp only [Act.put, List.setIfInBounds_toArray, List.set_cons_zero, List.set_cons_succ]
        refine wpAnyH_take (i := 6) (oi := { dst := some 40, op := Op.move (Operand.tmp 9), type := 29, pos := "law.go:32", after := #[{ on := 5, ground := Ground.guard }], guard := some (5, false) }) (v := ?v7) rfl (by kernel_rfl) (by kernel_rfl) (by kernel_rfl) (fun _ _ _ h => h) (Or.inl ⟨by rfl, ?y7⟩) hHeld ?r7
        case y7 => (intro W hSw; (try dsimp only at hSw); go_simp; try with_reducible rfl)
        try simp only [Act.put, List.setIfInBounds_toArray, List.set_cons_zero, List.set_cons_succ]
        refine wpAnyH_take (i := 7) (oi := { dst := some 41, op := Op.move (Operand.tmp 6), type := 3, pos := "law.go:32", after := #[{ on := 5, ground := Ground.guard }], guard := some (5, false) }) (v := ?v8) rfl (by kernel_rfl) (by kernel_rfl) (by kernel_rfl) (fun _ _ _ h => h) (Or.inl ⟨by rfl, ?y8⟩) hHeld ?r8
        case y8 => (intro W hSw; (try dsimp only at hSw); go_simp; try with_reducible rfl)
        try simp only [Act.put, List.setIfInBounds_toArray, List.set_cons_zero, List.set_cons_succ]
        refine wpAnyH_take (i := 8) (oi := { dst := some 42, op := Op.binOp BinOp.neq 3 (Operand.tmp 40) (Operand.tmp 41) 3, type := 4, pos := "law.go:32", after := #[{ on := 6, ground := Ground.data }, { on := 7, ground := Ground.data }, { on := 5, ground := Ground.guard }], guard := some (5, false) }) (v := ?v9) rfl (by kernel_rfl) (by kernel_rfl) (by kernel_rfl) (fun _ _ _ h => h) (Or.inl ⟨by rfl, ?y9⟩) hHeld ?r9
        case y9 => (intro W hSw; (try dsimp only at hSw); go_simp; try with_reducible rfl)
        try simp only [Act.put, List.setIfInBounds_toArray, List.set_cons_zero, List.set_cons_succ]
        refine wpAnyH_take (i := 9) (oi := { dst := some 43, op := Op.pick (Operand.tmp 39) (Operand.const (Value.bool true)) (Operand.tmp 42), type := 4, pos := "law.go:32", after := #[{ on := 5, ground := Ground.data }, { on := 8, ground := Ground.data }], guard := none }) (v := ?v10) rfl (by kernel_rfl) (by kernel_rfl) (by kernel_rfl) (fun _ _ _ h => h) (Or.inl ⟨by rfl, ?y10⟩) hHeld ?r10
        case y10 => (intro W hSw; (try dsimp only at hSw); go_simp; try with_reducible rfl)
        try simp only [Act.put, List.setIfInBounds_toArray, List.set_cons_zero, List.set_cons_succ]
        refine wpAnyH_take (i := 10) (oi := { dst := some 44, op := Op.move (Operand.tmp 43), type := 4, pos := "law.go:32", after := #[{ on := 9, ground := Ground.data }, { on := 5, ground := Ground.chain }], guard := none }) (v := ?v11) rfl (by kernel_rfl) (by kernel_rfl) (by kernel_rfl) (fun _ _ _ h => h) (Or.inl ⟨by rfl, ?y11⟩) hHeld ?r11
        case y11 => (intro W hSw; (try dsimp only at hSw); go_simp; try with_reducible rfl)
        try simp only [Act.put, List.setIfInBounds_toArray, List.set_cons_zero, List.set_cons_succ]
        refine wpAnyH_take (i := 11) (oi := { dst := some 45, op := Op.move (Operand.tmp 10), type := 26, pos := "law.go:32", after := #[{ on := 10, ground := Ground.guard }], guard := some (10, false) }) (v := ?v12) rfl (by kernel_rfl) (by kernel_rfl) (by kernel_rfl) (fun _ _ _ h => h) (Or.inl ⟨by rfl, ?y12⟩) hHeld ?r12
        case y12 => (intro W hSw; (try dsimp only at hSw); go_simp; try with_reducible rfl)
        try simp only [Act.put, List.setIfInBounds_toArray, List.set_cons_zero, List.set_cons_succ]
        refine wpAnyH_take (i := 12) (oi := { dst := some 46, op := Op.convert 26 9 (Operand.tmp 45), type := 9, pos := "law.go:32", after := #[{ on := 11, ground := Ground.data }, { on := 10, ground := Ground.guard }], guard := some (10, false) }) (v := ?v13) rfl (by kernel_rfl) (by kernel_rfl) (by kernel_rfl) (fun _ _ _ h => h) (Or.inl ⟨by rfl, ?y13⟩) hHeld ?r13
        case y13 => (intro W hSw; (try dsimp only at hSw); go_simp; try with_reducible rfl)
        try simp only [Act.put, List.setIfInBounds_toArray, List.set_cons_zero, List.set_cons_succ]
        refine wpAnyH_take (i := 13) (oi := { dst := some 47, op := Op.move (Operand.tmp 1), type := 5, pos := "law.go:32", after := #[{ on := 10, ground := Ground.guard }], guard := some (10, false) }) (v := ?v14) rfl (by kernel_rfl) (by kernel_rfl) (by kernel_rfl) (fun _ _ _ h => h) (Or.inl ⟨by rfl, ?y14⟩) hHeld ?r14
        case y14 => (intro W hSw; (try dsimp only at hSw); go_simp; try with_reducible rfl)
        try simp only [Act.put, List.setIfInBounds_toArray, List.set_cons_zero, List.set_cons_succ]
        refine wpAnyH_ready (rs := [14]) (by kernel_rfl) (by simp) (AllReadyH.cons (o := { dst := some 48, op := Op.call { callee := Callee.value (Operand.func 7), args := #[Operand.tmp 47], argTypes := #[5] }, type := 26, pos := "law.go:32", after := #[{ on := 13, ground := Ground.data }, { on := 10, ground := Ground.chain }, { on := 10, ground := Ground.guard }], guard := some (10, false) }) rfl (fun K hK => ?_) AllReadyH.nil)
        go_simp
        refine (HR.out _).mono ?_
        rintro e w5 ⟨A55, c55, rfl, hm5⟩
        replace bb := bb.trans (hm5.below.mono bb.size)
        have k4 := Made.conv hm5 HXL.out (Below.refl _ _)
        clear hm5
        refine hK.out _ _ (HC.out _ bb) (fun hHeld => ?_)
        clear hK K
        try simp only [Act.put, List.setIfInBounds_toArray, List.set_cons_zero, List.set_cons_succ]
        refine wpAnyH_ready (rs := [15]) (by kernel_rfl) (by simp) (AllReadyH.cons (o := { dst := some 49, op := Op.convert 26 9 (Operand.tmp 48), type := 9, pos := "law.go:32", after := #[{ on := 14, ground := Ground.data }, { on := 10, ground := Ground.guard }], guard := some (10, false) }) rfl (fun K hK => ?_) AllReadyH.nil)
        go_simp
        refine hK.out _ _ (HC.out _ bb) (fun hHeld => ?_)
        clear hK K
        try simp only [Act.put, List.setIfInBounds_toArray, List.set_cons_zero, List.set_cons_succ]
        refine wpAnyH_take (i := 16) (oi := { dst := some 50, op := Op.binOp BinOp.neq 9 (Operand.tmp 46) (Operand.tmp 49) 9, type := 4, pos := "law.go:32", after := #[{ on := 12, ground := Ground.data }, { on := 15, ground := Ground.data }, { on := 10, ground := Ground.guard }], guard := some (10, false) }) (v := ?v15) rfl (by kernel_rfl) (by kernel_rfl) (by kernel_rfl) (fun _ _ _ h => h) (Or.inl ⟨by rfl, ?y15⟩) hHeld ?r15
        case y15 => (intro W hSw; (try dsimp only at hSw); go_simp; try with_reducible rfl)
        try simp only [Act.put, List.setIfInBounds_toArray, List.set_cons_zero, List.set_cons_succ]
        refine wpAnyH_take (i := 17) (oi := { dst := some 51, op := Op.pick (Operand.tmp 44) (Operand.const (Value.bool true)) (Operand.tmp 50), type := 4, pos := "law.go:32", after := #[{ on := 10, ground := Ground.data }, { on := 16, ground := Ground.data }], guard := none }) (v := ?v16) rfl (by kernel_rfl) (by kernel_rfl) (by kernel_rfl) (fun _ _ _ h => h) (Or.inl ⟨by rfl, ?y16⟩) hHeld ?r16
        case y16 => (intro W hSw; (try dsimp only at hSw); go_simp; try with_reducible rfl)
        try simp only [Act.put, List.setIfInBounds_toArray, List.set_cons_zero, List.set_cons_succ]
        refine wpAnyH_take (i := 18) (oi := { dst := some 52, op := Op.move (Operand.tmp 51), type := 4, pos := "law.go:32", after := #[{ on := 17, ground := Ground.data }, { on := 14, ground := Ground.chain }], guard := none }) (v := ?v17) rfl (by kernel_rfl) (by kernel_rfl) (by kernel_rfl) (fun _ _ _ h => h) (Or.inl ⟨by rfl, ?y17⟩) hHeld ?r17
        case y17 => (intro W hSw; (try dsimp only at hSw); go_simp; try with_reducible rfl)
        try simp only [Act.put, List.setIfInBounds_toArray, List.set_cons_zero, List.set_cons_succ]
        refine wpAnyH_take (i := 19) (oi := { dst := some 53, op := Op.move (Operand.tmp 1), type := 5, pos := "law.go:32", after := #[{ on := 18, ground := Ground.guard }], guard := some (18, false) }) (v := ?v18) rfl (by kernel_rfl) (by kernel_rfl) (by kernel_rfl) (fun _ _ _ h => h) (Or.inl ⟨by rfl, ?y18⟩) hHeld ?r18
        case y18 => (intro W hSw; (try dsimp only at hSw); go_simp; try with_reducible rfl)
        try simp only [Act.put, List.setIfInBounds_toArray, List.set_cons_zero, List.set_cons_succ]
        refine wpAnyH_take (i := 21) (oi := { dst := some 55, op := Op.move (Operand.tmp 1), type := 5, pos := "law.go:32", after := #[{ on := 18, ground := Ground.guard }], guard := some (18, false) }) (v := ?v19) rfl (by kernel_rfl) (by kernel_rfl) (by kernel_rfl) (fun _ _ _ h => h) (Or.inl ⟨by rfl, ?y19⟩) hHeld ?r19
        case y19 => (intro W hSw; (try dsimp only at hSw); go_simp; try with_reducible rfl)
        try simp only [Act.put, List.setIfInBounds_toArray, List.set_cons_zero, List.set_cons_succ]
        refine wpAnyH_ready (rs := [20]) (by kernel_rfl) (by simp) (AllReadyH.cons (o := { dst := some 54, op := Op.call { callee := Callee.value (Operand.func 8), args := #[Operand.tmp 53], argTypes := #[5] }, type := 5, pos := "law.go:32", after := #[{ on := 19, ground := Ground.data }, { on := 18, ground := Ground.chain }, { on := 18, ground := Ground.guard }], guard := some (18, false) }) rfl (fun K hK => ?_) AllReadyH.nil)
        go_simp
        refine (HNU.out _ (HN4.out.below bb (Nat.le_refl _))).mono ?_
        rintro e w6 ⟨rfl, rfl⟩
        refine hK.out _ _ (HC.out _ bb) (fun hHeld => ?_)
        clear hK K
        try simp only [Act.put, List.setIfInBounds_toArray, List.set_cons_zero, List.set_cons_succ]
        refine wpAnyH_ready (rs := [22]) (by kernel_rfl) (by simp) (AllReadyH.cons (o := { dst := some 56, op := Op.call { callee := Callee.value (Operand.func 9), args := #[Operand.tmp 55], argTypes := #[5] }, type := 5, pos := "law.go:32", after := #[{ on := 21, ground := Ground.data }, { on := 20, ground := Ground.chain }, { on := 18, ground := Ground.guard }], guard := some (18, false) }) rfl (fun K hK => ?_) AllReadyH.nil)
        go_simp
        refine (HRN.out _).mono ?_
        rintro e w7 ⟨rfl, hb7⟩
        replace bb := bb.trans (hb7.mono bb.size)
        clear hb7
        refine hK.out _ _ (HC.out _ bb) (fun hHeld => ?_)
        clear hK K
        try simp only [Act.put, List.setIfInBounds_toArray, List.set_cons_zero, List.set_cons_succ]
        refine wpAnyH_take (i := 23) (oi := { dst := some 57, op := Op.binOp BinOp.neq 5 (Operand.tmp 54) (Operand.tmp 56) 5, type := 4, pos := "law.go:32", after := #[{ on := 20, ground := Ground.data }, { on := 22, ground := Ground.data }, { on := 18, ground := Ground.guard }], guard := some (18, false) }) (v := ?v20) rfl (by kernel_rfl) (by kernel_rfl) (by kernel_rfl) (fun _ _ _ h => h) (Or.inl ⟨by rfl, ?y20⟩) hHeld ?r20
        case y20 => (intro W hSw; (try dsimp only at hSw); go_simp; try with_reducible rfl)
        try simp only [Act.put, List.setIfInBounds_toArray, List.set_cons_zero, List.set_cons_succ]
        refine wpAnyH_take (i := 24) (oi := { dst := some 58, op := Op.pick (Operand.tmp 52) (Operand.const (Value.bool true)) (Operand.tmp 57), type := 4, pos := "law.go:32", after := #[{ on := 18, ground := Ground.data }, { on := 23, ground := Ground.data }], guard := none }) (v := ?v21) rfl (by kernel_rfl) (by kernel_rfl) (by kernel_rfl) (fun _ _ _ h => h) (Or.inl ⟨by rfl, ?y21⟩) hHeld ?r21
        case y21 => (intro W hSw; (try dsimp only at hSw); go_simp; try with_reducible rfl)
        try simp only [Act.put, List.setIfInBounds_toArray, List.set_cons_zero, List.set_cons_succ]
        refine wpAnyH_done (by kernel_rfl) ?_ _
        (try go_wp2_with fail)
        go_meet
        exact ⟨rfl, ⟨bb⟩⟩
      case rest =>
        obtain ⟨rfl, HBB⟩ := hcut
        have HT := Bx.mk (HTW.out.fresh HBB.out)
        clear HTW HM34 HM4 HBB HM4w HN4
        go_wp2_with fail
        go_loopw [11] (fun s11 wq => ∃ j : Nat, j ≤ n ∧ s11 = .int .i64 (j : Int) ∧ Bx (TwoI wo wq A8 n A10 10)) (fun s11 _ => n - (intOf s11).toNat)
        case atStart => exact ⟨0, Nat.zero_le _, rfl, HT⟩
        case round =>
          clear HT
          obtain ⟨j, hj, rfl, HI⟩ := hrel
          by_cases hjk : j < n
          · obtain ⟨g, z, rfl, hc, hf, hset⟩ := HI.out.atA hjk
            have HSet := Bx.mk hset
            have hjk' : (j : Int) < (n : Int) := by omega
            clear hset
            go_wp2_with fail
            go_roundw
            case rel => exact ⟨j + 1, by omega, by go_num, ⟨HSet.out _⟩⟩
            case measure => simp [intOf]; omega
          · obtain rfl : j = n := by omega
            go_wp2_with fail
            go_loopw [12] (fun s12 wq => ∃ m : Nat, m ≤ 10 ∧ s12 = .int .i64 (m : Int) ∧ Bx (TwoI wo wq A8 j A10 10)) (fun s12 _ => 10 - (intOf s12).toNat)
            case atStart => exact ⟨0, Nat.zero_le _, rfl, HI⟩
            case round =>
              clear HI
              obtain ⟨m, hm, rfl, HI⟩ := hrel
              by_cases hm2 : m < 10
              · obtain ⟨g, z, rfl, hc, hf, hset⟩ := HI.out.atB hm2
                have HSet := Bx.mk hset
                have hm2' : (m : Int) < 10 := by omega
                clear hset
                go_wp2_with fail
                go_roundw
                case rel => exact ⟨m + 1, by omega, by go_num, ⟨HSet.out _⟩⟩
                case measure => simp [intOf]; omega
              · obtain rfl : m = 10 := by omega
                have HME := Bx.mk (HM.out.fresh HI.out.a.below)
                clear HM HI
                go_wp2_with fail
                go_roundw
                case rel => exact ⟨i + 1, by omega, by go_num, HME⟩
                case measure => simp [intOf]; omega
    · obtain rfl : i = 2 := by omega
      go_wp2_with fail
      go_ret
      exact ⟨rfl, HB0.out.trans (HM.out.below.mono HB0.out.size)⟩
theorem prints_wk {w : World} {k : Int} {t : ByteArray} {p : Int} (h0 : 0 ≤ k) {a : Int} (ha : 0 ≤ a ∧ a < 256) (hN : Nums w) : Calls Tryd.prog 3 #[tv k t p, .int .u8 a] w (True_ w) := by
  obtain ⟨x, rfl⟩ : ∃ x, t = S x := ⟨_, (S_data t).symm⟩
  obtain ⟨d, rfl⟩ : ∃ d : Nat, a = (d : Int) := ⟨a.toNat, by omega⟩
  exact prints_walk h0 (by omega) hN
end Go.Proofs.YtefpplkoohnfbaaDoor.ak
