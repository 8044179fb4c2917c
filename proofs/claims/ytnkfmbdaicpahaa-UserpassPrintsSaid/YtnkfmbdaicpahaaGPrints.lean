/-
  Given for the seat's laws: UserpassPrints at any texts and both answers. No condition.
-/
import Derived.Test.YtnkfmbdaicpahaaGRPrint
import Derived.Deep.RegionWith
import Derived.Deep.RegionHeld3
namespace Go.Proofs.Ytnkfmbdaicpahaa.gr
open Go.RowKit mem
set_option linter.unusedVariables false


/-- bytes of the call's own, each with a number, whichever -/
structure Inc (w1 wr : World) (A : Option Addr) (n : Nat) : Prop where
  below : Below w1.heap.size w1 wr
  cells : 0 < n → ∃ g cur, A = some ⟨g, 0, none⟩ ∧ w1.heap.size ≤ g ∧ Lies wr g 5 cur ∧ ∀ j, j < n → ∃ z, cur[j]? = some (.int .u8 z)
theorem Made.inc {w1 w2 : World} {A : Option Addr} {n c : Nat} {l : Str} (h : Made w1 w2 (.slice A n c) l) (hn : l.length = n) : Inc w1 w2 A n := by
  refine ⟨h.below, fun hp => ?_⟩
  rcases h.own.2 with ⟨hv, _⟩ | ⟨g, cap, cur, hv, hb, hh, hnc, hm, hs, ht⟩
  · simp only [Value.slice.injEq] at hv
    omega
  · simp only [Value.slice.injEq] at hv
    obtain ⟨rfl, _, _⟩ := hv
    refine ⟨g, cur, rfl, hb, hh, fun j hj => ?_⟩
    have hz : (B8 (ints l))[j]? = some (.int .u8 ((l[j]'(by omega)).toNat : Int)) := by simp [B8, ints, hj, hn]
    rw [← ht, Nat.mul_one, List.getElem?_take] at hz
    split at hz
    · exact ⟨_, by simpa using hz⟩
    · cases hz
theorem Inc.fresh {w1 wr wz : World} {A : Option Addr} {n : Nat} (h : Inc w1 wr A n) (hb : Below wr.heap.size wr wz) : Inc w1 wz A n := by
  refine ⟨h.below.trans (hb.mono h.below.size), fun hp => ?_⟩
  obtain ⟨g, cur, e, hg, hl, hc⟩ := h.cells hp
  exact ⟨g, cur, e, hg, hl.below hb hl.lt, hc⟩
theorem Inc.at {w1 wr : World} {A : Option Addr} {n : Nat} (h : Inc w1 wr A n) {i : Nat} (hi : i < n) : ∃ g z, A = some ⟨g, 0, none⟩ ∧ w1.heap.size ≤ g ∧ wr.cell? ⟨g, i, none⟩ = some (.int .u8 z) ∧ wr.frozen? ⟨g, i, none⟩ = false ∧ ∀ y, Inc w1 (wr.setCell ⟨g, i, none⟩ (.int .u8 y)) A n := by
  obtain ⟨g, cur, rfl, hg, hl, hc⟩ := h.cells (by omega)
  obtain ⟨z, hz⟩ := hc i hi
  refine ⟨g, z, rfl, hg, by rw [hl.cell]; exact hz, hl.frozen i, fun y => ⟨h.below.setCell hg _, fun _ => ⟨g, _, rfl, hg, hl.set i _, fun j hj => ?_⟩⟩⟩
  obtain ⟨u, hu⟩ := hc j hj
  have hsz := (Array.getElem?_eq_some_iff.1 hu).1
  by_cases e : i = j
  · subst e; exact ⟨y, by simp [hsz]⟩
  · exact ⟨u, by simp [e, hu]⟩

theorem Made.conv {w w1 : World} {A : Option Addr} {n c : Nat} {l : Str} (h : Made w w1 (.slice A n c) l) (hn : l.length = n) {W : World} (hb : Below w1.heap.size w1 W) : (convert 22 9 (.slice A n c)).run Try.prog W = .ok (.string (S l)) W :=
  spell_str (made_spell (h.fresh hb) hn)
/-- both rows, each with its numbers, apart -/
structure TwoI (w wr : World) (A : Option Addr) (n : Nat) (B : Option Addr) (m : Nat) : Prop where
  a : Inc w wr A n
  b : Inc w wr B m
  ap : ∀ g, A = some ⟨g, 0, none⟩ → B = some ⟨g, 0, none⟩ → False
theorem Inc.far {w1 wr : World} {A : Option Addr} {n : Nat} (h : Inc w1 wr A n) {g i : Nat} (hg : w1.heap.size ≤ g) (hne : A ≠ some ⟨g, 0, none⟩) (v : Value) : Inc w1 (wr.setCell ⟨g, i, none⟩ v) A n := by
  refine ⟨h.below.setCell hg _, fun hp => ?_⟩
  obtain ⟨g', cur, rfl, hg', hl, hc⟩ := h.cells hp
  exact ⟨g', cur, rfl, hg', hl.far (fun e => hne (by rw [e])) v, hc⟩
section
variable {w wr wz : World} {A B : Option Addr} {n m : Nat}
theorem TwoI.fresh (h : TwoI w wr A n B m) (hb : Below wr.heap.size wr wz) : TwoI w wz A n B m := ⟨h.a.fresh hb, h.b.fresh hb, h.ap⟩
theorem TwoI.atA (h : TwoI w wr A n B m) {i : Nat} (hi : i < n) : ∃ g z, A = some ⟨g, 0, none⟩ ∧ wr.cell? ⟨g, i, none⟩ = some (.int .u8 z) ∧ wr.frozen? ⟨g, i, none⟩ = false ∧ ∀ y, TwoI w (wr.setCell ⟨g, i, none⟩ (.int .u8 y)) A n B m := by
  obtain ⟨g, z, e, hg, hc, hf, hs⟩ := h.a.at hi
  exact ⟨g, z, e, hc, hf, fun y => ⟨hs y, h.b.far hg (fun e' => h.ap g e e') _, h.ap⟩⟩
theorem TwoI.atB (h : TwoI w wr A n B m) {i : Nat} (hi : i < m) : ∃ g z, B = some ⟨g, 0, none⟩ ∧ wr.cell? ⟨g, i, none⟩ = some (.int .u8 z) ∧ wr.frozen? ⟨g, i, none⟩ = false ∧ ∀ y, TwoI w (wr.setCell ⟨g, i, none⟩ (.int .u8 y)) A n B m := by
  obtain ⟨g, z, e, hg, hc, hf, hs⟩ := h.b.at hi
  exact ⟨g, z, e, hc, hf, fun y => ⟨h.a.far hg (fun e' => h.ap g e' e) _, hs y, h.ap⟩⟩
end
theorem two_of {w w1 w2 : World} {A B : Option Addr} {n m c d : Nat} {l k : Str} (ha : Made w w1 (.slice A n c) l) (hl : l.length = n) (hb : Made w1 w2 (.slice B m d) k) (hk : k.length = m) : TwoI w w2 A n B m := by
  refine ⟨(ha.fresh hb.below).inc hl, (hb.since ha.below).inc hk, fun g ea eb => ?_⟩
  have h1 := own_lt ha.own (g := g) (by rw [ea]; rfl)
  have h2 := own_lt hb.own (g := g) (by rw [eb]; rfl)
  omega
theorem pk_len (s t : ByteArray) : (pk s t).1.length = (pk s t).2.1 := by
  unfold pk
  split
  · show (pr (L s) (L t)).length = 3 + s.size + t.size
    rw [pr_len, L_len, L_len]
  · rfl
theorem pk_max (s t : ByteArray) : (pk s t).2.1 ≤ 1000 := by
  unfold pk
  split
  · next h =>
    simp only [Bool.and_eq_true] at h
    have h1 := (fit_t.1 h.1).2
    have h2 := (fit_t.1 h.2).2
    rw [L_len] at h1 h2
    show 3 + s.size + t.size ≤ 1000
    omega
  · exact Nat.zero_le _
theorem print_as (s t : ByteArray) {l : Str} {k q : Nat} (h : pk s t = (l, k, q)) (w : World) : Calls Try.prog 12 #[.string s, .string t] w (PrintAs l k q w) := by
  have := print_any s t w
  rw [h] at this
  exact this
theorem rprint_as (s t : ByteArray) {l : Str} {k q : Nat} (h : pk s t = (l, k, q)) (w : World) : Calls Try.prog 11 #[.string s, .string t] w (PrintAs l k q w) := by
  have := rprint_any s t w
  rw [h] at this
  exact this
def AnsOf (l : Str) (w : World) (e : Ending) (w' : World) : Prop := ∃ A c, e = .returned (.slice A 2 c) ∧ Made w w' (.slice A (2 : Nat) c) l

set_option maxHeartbeats 8000000 in
set_option maxRecDepth 100000 in
theorem prints_walk {w : World} (s t : ByteArray) (b : Bool) : Calls Try.prog 4 #[.string s, .string t, .bool b] w (True_ w) := by
  by_cases ls : 1000 < s.size
  · have ls' : (1000 : Int) < (s.size : Int) := by omega
    go_enter Try.func4, Try.ntmps4
    go_wp2_with fail
    go_ret
    exact ⟨rfl, Below.refl _ _⟩
  have ls' : ¬ (1000 : Int) < (s.size : Int) := by omega
  clear ls
  by_cases lt : 1000 < t.size
  · have lt' : (1000 : Int) < (t.size : Int) := by omega
    go_enter Try.func4, Try.ntmps4
    go_wp2_with fail
    go_ret
    exact ⟨rfl, Below.refl _ _⟩
  have lt' : ¬ (1000 : Int) < (t.size : Int) := by omega
  clear lt
  obtain ⟨l, k, q, hpk⟩ : ∃ l k q, pk s t = (l, k, q) := ⟨_, _, _, rfl⟩
  have hlk : l.length = k := by have := pk_len s t; rw [hpk] at this; exact this
  have hk1 : k ≤ 1000 := by have := pk_max s t; rw [hpk] at this; exact this
  obtain ⟨x, hx⟩ : ∃ x, x = yn b := ⟨_, rfl⟩
  have HP := Bx.mk (fun w => print_as s t hpk w)
  have HRP := Bx.mk (fun w => rprint_as s t hpk w)
  have HA : Bx (∀ w, Calls Try.prog 13 #[.bool b] w (AnsOf x w)) := ⟨fun w => by rw [hx]; exact answer_any b w⟩
  have HR : Bx (∀ w, Calls Try.prog 14 #[.bool b] w (AnsOf x w)) := ⟨fun w => by rw [hx]; exact ranswer_any b w⟩
  have HLK := Bx.mk hlk
  have HXL : Bx (x.length = 2) := ⟨by rw [hx]; rfl⟩
  have hs1 := (str_eq l).1
  have hs2 := (str_eq l).2
  have hs3 := (str_eq x).1
  have hs4 := (str_eq x).2
  clear hpk hlk hx
  go_enter Try.func4, Try.ntmps4
  go_wp2_with fail
  refine (HRP.out _).mono ?_
  rintro e w1 ⟨A7, c7, rfl, hm1⟩
  have HM1 := Bx.mk hm1
  clear hm1 HRP
  go_wp2_with fail
  go_loopw [9, 10, 11, 12, 13, 14] (fun s9 s10 s11 s12 s13 s14 wr => ∃ i : Nat, i ≤ 2 ∧ s9 = .int .i64 (i : Int) ∧ Bx (Made w wr (.slice A7 k c7) l)) (fun s9 _ _ _ _ _ _ => 2 - (intOf s9).toNat)
  case atStart => exact ⟨0, Nat.zero_le _, rfl, HM1⟩
  case round =>
    clear HM1
    obtain ⟨wo, rfl⟩ : ∃ x, x = wr := ⟨wr, rfl⟩
    obtain ⟨i, hi, rfl, HM⟩ := hrel
    by_cases hlt : i < 2
    · have hlt' : (i : Int) < 2 := by omega
      go_wp2_with fail
      refine (HP.out _).mono ?_
      rintro e w3 ⟨A10, c10, rfl, hm3⟩
      have HM3 := Bx.mk hm3
      clear hm3
      go_wp2_with fail
      refine (HA.out _).mono ?_
      rintro e w4 ⟨A12, c12, rfl, hm4⟩
      have HTW := Bx.mk (two_of HM3.out HLK.out hm4 HXL.out)
      have HM4 := Bx.mk hm4
      have HM34 := Bx.mk (HM3.out.fresh hm4.below)
      have HM4w := Bx.mk (HM.out.fresh HM34.out.below)
      clear hm4 HM3
      go_upto_region 9 with fail
      go_cut [58] (fun s58 wx => s58 = .bool false ∧ Bx (Below w4.heap.size w4 wx))
      case first =>
        have HC : Bx (∀ W', Below w4.heap.size w4 W' → (convert 22 9 (.slice A10 k c10)).run Try.prog W' = .ok (.string (S l)) W' ∧ (convert 22 9 (.slice A7 k c7)).run Try.prog W' = .ok (.string (S l)) W' ∧ (convert 22 9 (.slice A12 2 c12)).run Try.prog W' = .ok (.string (S x)) W') := ⟨fun W' hb => ⟨HM34.out.conv HLK.out hb, HM4w.out.conv HLK.out hb, HM4.out.conv HXL.out hb⟩⟩
        have bb : Below w4.heap.size w4 w4.drew := (Below.refl _ w4).drew
        clear HM34 HM4 HM4w HM HTW HP HA
        refine wp_region_held_drew (S := fun W' => (convert 22 9 (.slice A10 k c10)).run Try.prog W' = .ok (.string (S l)) W' ∧ (convert 22 9 (.slice A7 k c7)).run Try.prog W' = .ok (.string (S l)) W' ∧ (convert 22 9 (.slice A12 2 c12)).run Try.prog W' = .ok (.string (S x)) W') (by kernel_rfl) (HC.out _ bb) (fun hHeld => ?_)
        refine wpAnyH_take (i := 0) (oi := { dst := some 41, op := Op.move (Operand.tmp 10), type := 22, pos := "law.go:31", after := #[], guard := none }) (v := ?v1) rfl (by kernel_rfl) (by kernel_rfl) (by kernel_rfl) (fun _ _ _ h => h) (Or.inl ⟨by rfl, ?y1⟩) hHeld ?r1
        case y1 => (intro W hSw; (try dsimp only at hSw); go_simp; try with_reducible rfl)
        try simp only [Act.put, List.setIfInBounds_toArray, List.set_cons_zero, List.set_cons_succ]
        refine wpAnyH_take (i := 1) (oi := { dst := some 42, op := Op.convert 22 9 (Operand.tmp 41), type := 9, pos := "law.go:31", after := #[{ on := 0, ground := Ground.data }], guard := none }) (v := ?v2) rfl (by kernel_rfl) (by kernel_rfl) (by kernel_rfl) (fun _ _ _ h => h) (Or.inl ⟨by rfl, ?y2⟩) hHeld ?r2
        case y2 => (intro W hSw; (try dsimp only at hSw); go_simp; try with_reducible rfl)
        try simp only [Act.put, List.setIfInBounds_toArray, List.set_cons_zero, List.set_cons_succ]
        refine wpAnyH_take (i := 2) (oi := { dst := some 43, op := Op.move (Operand.tmp 7), type := 22, pos := "law.go:31", after := #[], guard := none }) (v := ?v3) rfl (by kernel_rfl) (by kernel_rfl) (by kernel_rfl) (fun _ _ _ h => h) (Or.inl ⟨by rfl, ?y3⟩) hHeld ?r3
        case y3 => (intro W hSw; (try dsimp only at hSw); go_simp; try with_reducible rfl)
        try simp only [Act.put, List.setIfInBounds_toArray, List.set_cons_zero, List.set_cons_succ]
        refine wpAnyH_take (i := 3) (oi := { dst := some 44, op := Op.convert 22 9 (Operand.tmp 43), type := 9, pos := "law.go:31", after := #[{ on := 2, ground := Ground.data }], guard := none }) (v := ?v4) rfl (by kernel_rfl) (by kernel_rfl) (by kernel_rfl) (fun _ _ _ h => h) (Or.inl ⟨by rfl, ?y4⟩) hHeld ?r4
        case y4 => (intro W hSw; (try dsimp only at hSw); go_simp; try with_reducible rfl)
        try simp only [Act.put, List.setIfInBounds_toArray, List.set_cons_zero, List.set_cons_succ]
        refine wpAnyH_take (i := 4) (oi := { dst := some 45, op := Op.binOp BinOp.neq 9 (Operand.tmp 42) (Operand.tmp 44) 9, type := 4, pos := "law.go:31", after := #[{ on := 1, ground := Ground.data }, { on := 3, ground := Ground.data }], guard := none }) (v := ?v5) rfl (by kernel_rfl) (by kernel_rfl) (by kernel_rfl) (fun _ _ _ h => h) (Or.inl ⟨by rfl, ?y5⟩) hHeld ?r5
        case y5 => (intro W hSw; (try dsimp only at hSw); go_simp; try with_reducible rfl)
        try simp only [Act.put, List.setIfInBounds_toArray, List.set_cons_zero, List.set_cons_succ]
        refine wpAnyH_take (i := 5) (oi := { dst := some 46, op := Op.move (Operand.tmp 45), type := 4, pos := "law.go:31", after := #[{ on := 4, ground := Ground.data }], guard := none }) (v := ?v6) rfl (by kernel_rfl) (by kernel_rfl) (by kernel_rfl) (fun _ _ _ h => h) (Or.inl ⟨by rfl, ?y6⟩) hHeld ?r6
        case y6 => (intro W hSw; (try dsimp only at hSw); go_simp; try with_reducible rfl)
        try simp only [Act.put, List.setIfInBounds_toArray, List.set_cons_zero, List.set_cons_succ]
        refine wpAnyH_take (i := 6) (oi := { dst := some 47, op := Op.move (Operand.tmp 11), type := 23, pos := "law.go:31", after := #[{ on := 5, ground := Ground.guard }], guard := some (5, false) }) (v := ?v7) rfl (by kernel_rfl) (by kernel_rfl) (by kernel_rfl) (fun _ _ _ h => h) (Or.inl ⟨by rfl, ?y7⟩) hHeld ?r7
        case y7 => (intro W hSw; (try dsimp only at hSw); go_simp; try with_reducible rfl)
        try simp only [Act.put, List.setIfInBounds_toArray, List.set_cons_zero, List.set_cons_succ]
        refine wpAnyH_take (i := 7) (oi := { dst := some 48, op := Op.move (Operand.tmp 8), type := 3, pos := "law.go:31", after := #[{ on := 5, ground := Ground.guard }], guard := some (5, false) }) (v := ?v8) rfl (by kernel_rfl) (by kernel_rfl) (by kernel_rfl) (fun _ _ _ h => h) (Or.inl ⟨by rfl, ?y8⟩) hHeld ?r8
        case y8 => (intro W hSw; (try dsimp only at hSw); go_simp; try with_reducible rfl)
        try simp only [Act.put, List.setIfInBounds_toArray, List.set_cons_zero, List.set_cons_succ]
        refine wpAnyH_take (i := 8) (oi := { dst := some 49, op := Op.binOp BinOp.neq 3 (Operand.tmp 47) (Operand.tmp 48) 3, type := 4, pos := "law.go:31", after := #[{ on := 6, ground := Ground.data }, { on := 7, ground := Ground.data }, { on := 5, ground := Ground.guard }], guard := some (5, false) }) (v := ?v9) rfl (by kernel_rfl) (by kernel_rfl) (by kernel_rfl) (fun _ _ _ h => h) (Or.inl ⟨by rfl, ?y9⟩) hHeld ?r9
        case y9 => (intro W hSw; (try dsimp only at hSw); go_simp; try with_reducible rfl)
        try simp only [Act.put, List.setIfInBounds_toArray, List.set_cons_zero, List.set_cons_succ]
        refine wpAnyH_take (i := 9) (oi := { dst := some 50, op := Op.pick (Operand.tmp 46) (Operand.const (Value.bool true)) (Operand.tmp 49), type := 4, pos := "law.go:31", after := #[{ on := 5, ground := Ground.data }, { on := 8, ground := Ground.data }], guard := none }) (v := ?v10) rfl (by kernel_rfl) (by kernel_rfl) (by kernel_rfl) (fun _ _ _ h => h) (Or.inl ⟨by rfl, ?y10⟩) hHeld ?r10
        case y10 => (intro W hSw; (try dsimp only at hSw); go_simp; try with_reducible rfl)
        try simp only [Act.put, List.setIfInBounds_toArray, List.set_cons_zero, List.set_cons_succ]
        refine wpAnyH_take (i := 10) (oi := { dst := some 51, op := Op.move (Operand.tmp 50), type := 4, pos := "law.go:31", after := #[{ on := 9, ground := Ground.data }, { on := 5, ground := Ground.chain }], guard := none }) (v := ?v11) rfl (by kernel_rfl) (by kernel_rfl) (by kernel_rfl) (fun _ _ _ h => h) (Or.inl ⟨by rfl, ?y11⟩) hHeld ?r11
        case y11 => (intro W hSw; (try dsimp only at hSw); go_simp; try with_reducible rfl)
        try simp only [Act.put, List.setIfInBounds_toArray, List.set_cons_zero, List.set_cons_succ]
        refine wpAnyH_take (i := 11) (oi := { dst := some 52, op := Op.move (Operand.tmp 12), type := 22, pos := "law.go:31", after := #[{ on := 10, ground := Ground.guard }], guard := some (10, false) }) (v := ?v12) rfl (by kernel_rfl) (by kernel_rfl) (by kernel_rfl) (fun _ _ _ h => h) (Or.inl ⟨by rfl, ?y12⟩) hHeld ?r12
        case y12 => (intro W hSw; (try dsimp only at hSw); go_simp; try with_reducible rfl)
        try simp only [Act.put, List.setIfInBounds_toArray, List.set_cons_zero, List.set_cons_succ]
        refine wpAnyH_take (i := 12) (oi := { dst := some 53, op := Op.convert 22 9 (Operand.tmp 52), type := 9, pos := "law.go:31", after := #[{ on := 11, ground := Ground.data }, { on := 10, ground := Ground.guard }], guard := some (10, false) }) (v := ?v13) rfl (by kernel_rfl) (by kernel_rfl) (by kernel_rfl) (fun _ _ _ h => h) (Or.inl ⟨by rfl, ?y13⟩) hHeld ?r13
        case y13 => (intro W hSw; (try dsimp only at hSw); go_simp; try with_reducible rfl)
        try simp only [Act.put, List.setIfInBounds_toArray, List.set_cons_zero, List.set_cons_succ]
        refine wpAnyH_take (i := 13) (oi := { dst := some 54, op := Op.move (Operand.tmp 2), type := 4, pos := "law.go:31", after := #[{ on := 10, ground := Ground.guard }], guard := some (10, false) }) (v := ?v14) rfl (by kernel_rfl) (by kernel_rfl) (by kernel_rfl) (fun _ _ _ h => h) (Or.inl ⟨by rfl, ?y14⟩) hHeld ?r14
        case y14 => (intro W hSw; (try dsimp only at hSw); go_simp; try with_reducible rfl)
        try simp only [Act.put, List.setIfInBounds_toArray, List.set_cons_zero, List.set_cons_succ]
        refine wpAnyH_ready (rs := [14]) (by kernel_rfl) (by simp) (AllReadyH.cons (o := { dst := some 55, op := Op.call { callee := Callee.value (Operand.func 14), args := #[Operand.tmp 54], argTypes := #[4] }, type := 22, pos := "law.go:31", after := #[{ on := 13, ground := Ground.data }, { on := 10, ground := Ground.chain }, { on := 10, ground := Ground.guard }], guard := some (10, false) }) rfl (fun K hK => ?_) AllReadyH.nil)
        go_simp
        refine (HR.out _).mono ?_
        rintro e w5 ⟨A55, c55, rfl, hm5⟩
        replace bb := bb.trans (hm5.below.mono bb.size)
        have k4 := hm5.conv HXL.out (Below.refl _ _)
        clear hm5
        refine hK.out _ _ (HC.out _ bb) (fun hHeld => ?_)
        clear hK K
        try simp only [Act.put, List.setIfInBounds_toArray, List.set_cons_zero, List.set_cons_succ]
        refine wpAnyH_ready (rs := [15]) (by kernel_rfl) (by simp) (AllReadyH.cons (o := { dst := some 56, op := Op.convert 22 9 (Operand.tmp 55), type := 9, pos := "law.go:31", after := #[{ on := 14, ground := Ground.data }, { on := 10, ground := Ground.guard }], guard := some (10, false) }) rfl (fun K hK => ?_) AllReadyH.nil)
        go_simp
        refine hK.out _ _ (HC.out _ bb) (fun hHeld => ?_)
        clear hK K
        try simp only [Act.put, List.setIfInBounds_toArray, List.set_cons_zero, List.set_cons_succ]
        refine wpAnyH_take (i := 16) (oi := { dst := some 57, op := Op.binOp BinOp.neq 9 (Operand.tmp 53) (Operand.tmp 56) 9, type := 4, pos := "law.go:31", after := #[{ on := 12, ground := Ground.data }, { on := 15, ground := Ground.data }, { on := 10, ground := Ground.guard }], guard := some (10, false) }) (v := ?v15) rfl (by kernel_rfl) (by kernel_rfl) (by kernel_rfl) (fun _ _ _ h => h) (Or.inl ⟨by rfl, ?y15⟩) hHeld ?r15
        case y15 => (intro W hSw; (try dsimp only at hSw); go_simp; try with_reducible rfl)
        try simp only [Act.put, List.setIfInBounds_toArray, List.set_cons_zero, List.set_cons_succ]
        refine wpAnyH_take (i := 17) (oi := { dst := some 58, op := Op.pick (Operand.tmp 51) (Operand.const (Value.bool true)) (Operand.tmp 57), type := 4, pos := "law.go:31", after := #[{ on := 10, ground := Ground.data }, { on := 16, ground := Ground.data }], guard := none }) (v := ?v16) rfl (by kernel_rfl) (by kernel_rfl) (by kernel_rfl) (fun _ _ _ h => h) (Or.inl ⟨by rfl, ?y16⟩) hHeld ?r16
        case y16 => (intro W hSw; (try dsimp only at hSw); go_simp; try with_reducible rfl)
        try simp only [Act.put, List.setIfInBounds_toArray, List.set_cons_zero, List.set_cons_succ]
        refine wpAnyH_done (by kernel_rfl) ?_ _
        (try go_wp2_with fail)
        go_meet
        exact ⟨rfl, ⟨bb⟩⟩
      case rest =>
        obtain ⟨rfl, HBB⟩ := hcut
        have HT := Bx.mk (HTW.out.fresh HBB.out)
        clear HTW HM34 HM4 HBB HM4w
        go_wp2_with fail
        go_loopw [13] (fun s13 wq => ∃ j : Nat, j ≤ k ∧ s13 = .int .i64 (j : Int) ∧ Bx (TwoI wo wq A10 k A12 2)) (fun s13 _ => k - (intOf s13).toNat)
        case atStart => exact ⟨0, Nat.zero_le _, rfl, HT⟩
        case round =>
          clear HT
          obtain ⟨j, hj, rfl, HI⟩ := hrel
          by_cases hjk : j < k
          · obtain ⟨g, z, rfl, hc, hf, hset⟩ := HI.out.atA hjk
            have HSet := Bx.mk hset
            have hjk' : (j : Int) < (k : Int) := by omega
            clear hset
            go_wp2_with fail
            go_roundw
            case rel => exact ⟨j + 1, by omega, by go_num, ⟨HSet.out _⟩⟩
            case measure => simp [intOf]; omega
          · obtain rfl : j = k := by omega
            go_wp2_with fail
            go_loopw [14] (fun s14 wq => ∃ m : Nat, m ≤ 2 ∧ s14 = .int .i64 (m : Int) ∧ Bx (TwoI wo wq A10 j A12 2)) (fun s14 _ => 2 - (intOf s14).toNat)
            case atStart => exact ⟨0, Nat.zero_le _, rfl, HI⟩
            case round =>
              clear HI
              obtain ⟨m, hm, rfl, HI⟩ := hrel
              by_cases hm2 : m < 2
              · obtain ⟨g, z, rfl, hc, hf, hset⟩ := HI.out.atB hm2
                have HSet := Bx.mk hset
                have hm2' : (m : Int) < 2 := by omega
                clear hset
                go_wp2_with fail
                go_roundw
                case rel => exact ⟨m + 1, by omega, by go_num, ⟨HSet.out _⟩⟩
                case measure => simp [intOf]; omega
              · obtain rfl : m = 2 := by omega
                have HME := Bx.mk (HM.out.fresh HI.out.a.below)
                clear HM HI
                go_wp2_with fail
                go_roundw
                case rel => exact ⟨i + 1, by omega, by go_num, HME⟩
                case measure => simp [intOf]; omega
    · obtain rfl : i = 2 := by omega
      go_wp2_with fail
      go_ret
      exact ⟨rfl, HM.out.below⟩
end Go.Proofs.Ytnkfmbdaicpahaa.gr
