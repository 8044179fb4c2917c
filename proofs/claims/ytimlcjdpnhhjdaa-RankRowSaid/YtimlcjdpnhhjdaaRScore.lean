/-
  Given for the seat's laws: the contracts of a score, of Chance and Score. No condition but those of the theorems.
-/
import Derived.Test.YtimlcjdpnhhjdaaRHalf
namespace Go.Proofs.Ytimlcjdpnhhjdaa.rk
open Go.RowKit mem sp
set_option linter.unusedVariables false

abbrev scs (d : Bool) (x : Int) : Array Value := #[.bool d, .int .u64 x]
/-- a score as a value -/
abbrev sv (s : Sc) : Value := .agg #[.bool s.has, .int .u64 s.top]
/-- the halves, what is told and what is reckoned, in three cells of the call's own, and the rest as it was -/
structure TW (w : World) (k0 k1 : W64) (r s : Array Value) (wr : World) : Prop where
  hal : Lies wr w.heap.size 49 (two k0 k1)
  ret : Lies wr (w.heap.size + 1) 47 r
  st : Lies wr (w.heap.size + 2) 47 s
  below : Below w.heap.size w wr
section
variable {w wr w2 : World} {k0 k1 : W64} {r s r' s' : Array Value}
theorem TW.start (w : World) (k0 k1 : W64) (r s : Array Value) : TW w k0 k1 r s (((w.alloc (.cells (two k0 k1) 49)).alloc (.cells r 47)).alloc (.cells s 47)) := by
  refine ⟨((Lies.new w _ _).alloc _).alloc _, ?_, ?_, (((Below.refl _ _).alloc (Nat.le_refl _) _).alloc (by simp) _).alloc (by simp; omega) _⟩
  · have := (Lies.new (w.alloc (.cells (two k0 k1) 49)) 47 r).alloc (.cells s 47)
    simpa using this
  · have := Lies.new ((w.alloc (.cells (two k0 k1) 49)).alloc (.cells r 47)) 47 s
    simpa [Nat.add_assoc] using this
theorem TW.set (h : TW w k0 k1 r s wr) (i : Nat) (x : Value) (e : s.setIfInBounds i x = s') : TW w k0 k1 r s' (wr.setCell ⟨w.heap.size + 2, i, none⟩ x) :=
  ⟨h.hal.far (p := ⟨w.heap.size + 2, i, none⟩) (by show w.heap.size ≠ w.heap.size + 2; omega) _, h.ret.far (p := ⟨w.heap.size + 2, i, none⟩) (by show w.heap.size + 1 ≠ w.heap.size + 2; omega) _, by rw [← e]; exact h.st.set i _, h.below.setCell (p := ⟨w.heap.size + 2, i, none⟩) (by show w.heap.size ≤ w.heap.size + 2; omega) _⟩
theorem TW.setr (h : TW w k0 k1 r s wr) (i : Nat) (x : Value) (e : r.setIfInBounds i x = r') : TW w k0 k1 r' s (wr.setCell ⟨w.heap.size + 1, i, none⟩ x) :=
  ⟨h.hal.far (p := ⟨w.heap.size + 1, i, none⟩) (by show w.heap.size ≠ w.heap.size + 1; omega) _, by rw [← e]; exact h.ret.set i _, h.st.far (p := ⟨w.heap.size + 1, i, none⟩) (by show w.heap.size + 2 ≠ w.heap.size + 1; omega) _, h.below.setCell (p := ⟨w.heap.size + 1, i, none⟩) (by show w.heap.size ≤ w.heap.size + 1; omega) _⟩
theorem TW.fresh (h : TW w k0 k1 r s wr) (hb : Below wr.heap.size wr w2) : TW w k0 k1 r s w2 :=
  ⟨h.hal.below hb h.hal.lt, h.ret.below hb h.ret.lt, h.st.below hb h.st.lt, h.below.trans (hb.mono h.below.size)⟩
theorem TW.drew (h : TW w k0 k1 r s wr) : TW w k0 k1 r s wr.drew := ⟨h.hal, h.ret, h.st, h.below.drew⟩
theorem TW.name (h : TW w k0 k1 r s wr) : ∃ wz, TW w k0 k1 r s wz ∧ Bx (wr = wz) := ⟨wr, h, ⟨rfl⟩⟩
end

def ScTo (s : Sc) (w : World) (e : Ending) (w' : World) : Prop := e = .returned (sv s) ∧ Below w.heap.size w w'

set_option maxHeartbeats 4000000 in
set_option maxRecDepth 100000 in
theorem scoreOf_great (k0 k1 : W64) (b : Str) (z : Int) (hb : b.length ≤ 100000) (hz : 100 < z) (w : World) : Calls Try.prog 23 #[hv k0 k1, .string (S b), .int .i64 z] w (ScTo (sco k0 k1 b z) w) := by
  obtain ⟨m, hm⟩ : ∃ m, cnt z = m := ⟨_, rfl⟩
  have hm100 : m ≤ 100 := by unfold cnt at hm; omega
  have hqm : ∀ i : Nat, i < m → (i : Int) < 100 := fun i => by
    unfold cnt at hm
    omega
  have hqn : ∀ i : Nat, ¬ i < m → 100 ≤ (i : Int) := fun i => by
    unfold cnt at hm
    omega
  have hfin : sv (sco k0 k1 b z) = .agg #[.bool (decide (0 < m)), .int .u64 (num (sup k0 k1 b m))] := by
    unfold sco
    rw [hm]
    have : decide (0 < z) = decide (0 < m) := by
      unfold cnt at hm
      apply decide_eq_decide.2
      omega
    rw [this]
  have HD : Bx (∀ (i : Nat) W, Calls Try.prog 24 #[hv k0 k1, .string (S b), .int .u8 ((UInt8.ofNat i).toNat : Int)] W (NumTo (drw k0 k1 b i) W)) := ⟨fun i W => draw_any k0 k1 b (UInt8.ofNat i) hb W⟩
  have h0 := Bx.mk (TW.start w k0 k1 (scs false 0) (scs false 0))
  have HQM := Bx.mk hqm
  have HQN := Bx.mk hqn
  have HM100 := Bx.mk hm100
  have HFIN := Bx.mk hfin
  clear hqm hqn hm100 hm hfin
  go_enter Try.func23, Try.ntmps23
  go_wp2
  go_loopw [8, 11] (fun s8 s11 wr => ∃ i : Nat, i ≤ m ∧ s11 = .int .i64 (i : Int) ∧ Bx (TW w k0 k1 (scs false 0) (scs (decide (0 < i)) (num (sup k0 k1 b i))) wr)) (fun _ s11 _ => 100 - (intOf s11).toNat)
  case atStart => exact ⟨0, by omega, rfl, by have : num (sup k0 k1 b 0) = 0 := by show num (mk 0) = 0; rw [num_mk (by omega)]; rfl
                                              rw [this]; exact h0⟩
  case round =>
    clear h0
    obtain ⟨i, hi, rfl, HM⟩ := hrel
    by_cases hlt : i < m
    · have hlq : (i : Int) < 100 := HQM.out i hlt
      have hi100 : i < 100 := by have := HM100.out; omega
      have hu : IntKind.u8.wrap (i : Int) = ((UInt8.ofNat i).toNat : Int) := by rw [IntKind.wrap_u8']; simp
      have HDI := Bx.mk (HD.out i)
      generalize hui : UInt8.ofNat i = ui at hu HDI
      have hM := HM.out
      have c0 := hM.st.cell 0
      have c1 := hM.st.cell 1
      have f0 := hM.st.frozen 0
      simp at c0 c1
      obtain ⟨x, hx⟩ : ∃ x, sup k0 k1 b i = x := ⟨_, rfl⟩
      obtain ⟨y, hy⟩ : ∃ y, drw k0 k1 b i = y := ⟨_, rfl⟩
      rw [hx] at c1
      rw [hy] at HDI
      have hnx : sup k0 k1 b (i + 1) = mx x y := by rw [← hx, ← hy]; rfl
      have h1 := hM.set 0 (.bool true) (s' := scs true (num x)) (by rw [hx]; rfl)
      obtain ⟨w1, h1, hw1⟩ := h1.name
      have hd1 := h1.drew
      have l0 := hd1.hal.cell 0
      have l1 := hd1.hal.cell 1
      have l2 := hd1.st.cell 1
      simp at l0 l1 l2
      have H1 := Bx.mk hd1
      have HNX := Bx.mk hnx
      clear hM HM h1 hd1 hx hy hnx hui
      go_upto_region 6 with fail
      rw [hw1.out]
      clear hw1 c0 c1 f0
      have e1 : num x < num y → mx x y = y := fun h => if_pos h
      have e2 : ¬ num x < num y → mx x y = x := fun h => if_neg h
      by_cases hxy : num x < num y
      · rw [e1 hxy] at HNX
        clear e1 e2
        go_region_with (first | (go_at_call 24; refine (HDI.out _).mono ?_; rintro e w2 ⟨rfl, hb2⟩; have H2 := H1.out.fresh hb2; have z0 := H2.hal.cell 0; have z1 := H2.hal.cell 1; have z2 := H2.st.cell 1; have zf := H2.st.frozen 1; simp at z0 z1 z2))
        all_goals
          have H3 := Bx.mk (H2.set 1 (.int .u64 (num y)) (s' := scs true (num y)) rfl)
          have hd1 : decide (0 < i + 1) = true := by simp
          clear H2 z0 z1 z2 zf l0 l1 l2 hb2 H1
          go_wp2
          go_roundw
          case rel => exact ⟨i + 1, by omega, by go_num, by rw [hd1, HNX.out]; exact H3⟩
          case measure => simp [intOf]; omega
      · rw [e2 hxy] at HNX
        have hxy2 : num y ≤ num x := by omega
        clear hxy e1 e2
        go_region_with (first | (go_at_call 24; refine (HDI.out _).mono ?_; rintro e w2 ⟨rfl, hb2⟩; have H2 := H1.out.fresh hb2; have z0 := H2.hal.cell 0; have z1 := H2.hal.cell 1; have z2 := H2.st.cell 1; have zf := H2.st.frozen 1; simp at z0 z1 z2))
        all_goals
          have H3 := Bx.mk (H2.set 1 (.int .u64 (num x)) (s' := scs true (num x)) rfl)
          have hd1 : decide (0 < i + 1) = true := by simp
          clear H2 z0 z1 z2 zf l0 l1 l2 hb2 H1
          go_wp2
          go_roundw
          case rel => exact ⟨i + 1, by omega, by go_num, by rw [hd1, HNX.out]; exact H3⟩
          case measure => simp [intOf]; omega
    · have hnq : 100 ≤ (i : Int) := HQN.out i hlt
      obtain rfl : i = m := by omega
      have hM := HM.out
      have c0 := hM.st.cell 0
      have c1 := hM.st.cell 1
      have r0 := hM.ret.cell 0
      have r1 := hM.ret.cell 1
      have f0 := hM.ret.frozen 0
      have f1 := hM.ret.frozen 1
      simp at c0 c1 r0 r1
      obtain ⟨wz, H4, hz4⟩ := ((hM.setr 0 (.bool (decide (0 < i))) rfl).setr (r' := scs (decide (0 < i)) (num (sup k0 k1 b i))) 1 (.int .u64 (num (sup k0 k1 b i))) rfl).name
      have hfin := HFIN.out
      generalize num (sup k0 k1 b i) = x at *
      generalize hdd : decide (0 < i) = d at *
      clear HM hM HQM HQN
      go_wp2
      rw [hz4.out]
      have q0 := H4.ret.cell 0
      have q1 := H4.ret.cell 1
      simp at q0 q1
      refine bodyPost_ret (v := .agg #[.bool d, .int .u64 x]) (by simp [results, Try.results23, go_sem, q0, q1]) rfl ⟨by rw [hfin], H4.below⟩

set_option maxHeartbeats 4000000 in
set_option maxRecDepth 100000 in
theorem scoreOf_small (k0 k1 : W64) (b : Str) (z : Int) (hb : b.length ≤ 100000) (hz : z ≤ 100) (w : World) : Calls Try.prog 23 #[hv k0 k1, .string (S b), .int .i64 z] w (ScTo (sco k0 k1 b z) w) := by
  obtain ⟨m, hm⟩ : ∃ m, cnt z = m := ⟨_, rfl⟩
  have hm100 : m ≤ 100 := by unfold cnt at hm; omega
  have hqm : ∀ i : Nat, i < m → (i : Int) < z := fun i => by
    unfold cnt at hm
    omega
  have hqn : ∀ i : Nat, ¬ i < m → z ≤ (i : Int) := fun i => by
    unfold cnt at hm
    omega
  have hfin : sv (sco k0 k1 b z) = .agg #[.bool (decide (0 < m)), .int .u64 (num (sup k0 k1 b m))] := by
    unfold sco
    rw [hm]
    have : decide (0 < z) = decide (0 < m) := by
      unfold cnt at hm
      apply decide_eq_decide.2
      omega
    rw [this]
  have HD : Bx (∀ (i : Nat) W, Calls Try.prog 24 #[hv k0 k1, .string (S b), .int .u8 ((UInt8.ofNat i).toNat : Int)] W (NumTo (drw k0 k1 b i) W)) := ⟨fun i W => draw_any k0 k1 b (UInt8.ofNat i) hb W⟩
  have h0 := Bx.mk (TW.start w k0 k1 (scs false 0) (scs false 0))
  have HQM := Bx.mk hqm
  have HQN := Bx.mk hqn
  have HM100 := Bx.mk hm100
  have HFIN := Bx.mk hfin
  clear hqm hqn hm100 hm hfin
  go_enter Try.func23, Try.ntmps23
  go_wp2
  go_loopw [8, 11] (fun s8 s11 wr => ∃ i : Nat, i ≤ m ∧ s11 = .int .i64 (i : Int) ∧ Bx (TW w k0 k1 (scs false 0) (scs (decide (0 < i)) (num (sup k0 k1 b i))) wr)) (fun _ s11 _ => 100 - (intOf s11).toNat)
  case atStart => exact ⟨0, by omega, rfl, by have : num (sup k0 k1 b 0) = 0 := by show num (mk 0) = 0; rw [num_mk (by omega)]; rfl
                                              rw [this]; exact h0⟩
  case round =>
    clear h0
    obtain ⟨i, hi, rfl, HM⟩ := hrel
    by_cases hlt : i < m
    · have hlq : (i : Int) < z := HQM.out i hlt
      have hi100 : i < 100 := by have := HM100.out; omega
      have hu : IntKind.u8.wrap (i : Int) = ((UInt8.ofNat i).toNat : Int) := by rw [IntKind.wrap_u8']; simp
      have HDI := Bx.mk (HD.out i)
      generalize hui : UInt8.ofNat i = ui at hu HDI
      have hM := HM.out
      have c0 := hM.st.cell 0
      have c1 := hM.st.cell 1
      have f0 := hM.st.frozen 0
      simp at c0 c1
      obtain ⟨x, hx⟩ : ∃ x, sup k0 k1 b i = x := ⟨_, rfl⟩
      obtain ⟨y, hy⟩ : ∃ y, drw k0 k1 b i = y := ⟨_, rfl⟩
      rw [hx] at c1
      rw [hy] at HDI
      have hnx : sup k0 k1 b (i + 1) = mx x y := by rw [← hx, ← hy]; rfl
      have h1 := hM.set 0 (.bool true) (s' := scs true (num x)) (by rw [hx]; rfl)
      obtain ⟨w1, h1, hw1⟩ := h1.name
      have hd1 := h1.drew
      have l0 := hd1.hal.cell 0
      have l1 := hd1.hal.cell 1
      have l2 := hd1.st.cell 1
      simp at l0 l1 l2
      have H1 := Bx.mk hd1
      have HNX := Bx.mk hnx
      clear hM HM h1 hd1 hx hy hnx hui
      go_upto_region 6 with fail
      rw [hw1.out]
      clear hw1 c0 c1 f0
      have e1 : num x < num y → mx x y = y := fun h => if_pos h
      have e2 : ¬ num x < num y → mx x y = x := fun h => if_neg h
      by_cases hxy : num x < num y
      · rw [e1 hxy] at HNX
        clear e1 e2
        go_region_with (first | (go_at_call 24; refine (HDI.out _).mono ?_; rintro e w2 ⟨rfl, hb2⟩; have H2 := H1.out.fresh hb2; have z0 := H2.hal.cell 0; have z1 := H2.hal.cell 1; have z2 := H2.st.cell 1; have zf := H2.st.frozen 1; simp at z0 z1 z2))
        all_goals
          have H3 := Bx.mk (H2.set 1 (.int .u64 (num y)) (s' := scs true (num y)) rfl)
          have hd1 : decide (0 < i + 1) = true := by simp
          clear H2 z0 z1 z2 zf l0 l1 l2 hb2 H1
          go_wp2
          go_roundw
          case rel => exact ⟨i + 1, by omega, by go_num, by rw [hd1, HNX.out]; exact H3⟩
          case measure => simp [intOf]; omega
      · rw [e2 hxy] at HNX
        have hxy2 : num y ≤ num x := by omega
        clear hxy e1 e2
        go_region_with (first | (go_at_call 24; refine (HDI.out _).mono ?_; rintro e w2 ⟨rfl, hb2⟩; have H2 := H1.out.fresh hb2; have z0 := H2.hal.cell 0; have z1 := H2.hal.cell 1; have z2 := H2.st.cell 1; have zf := H2.st.frozen 1; simp at z0 z1 z2))
        all_goals
          have H3 := Bx.mk (H2.set 1 (.int .u64 (num x)) (s' := scs true (num x)) rfl)
          have hd1 : decide (0 < i + 1) = true := by simp
          clear H2 z0 z1 z2 zf l0 l1 l2 hb2 H1
          go_wp2
          go_roundw
          case rel => exact ⟨i + 1, by omega, by go_num, by rw [hd1, HNX.out]; exact H3⟩
          case measure => simp [intOf]; omega
    · have hnq : z ≤ (i : Int) := HQN.out i hlt
      obtain rfl : i = m := by omega
      have hM := HM.out
      have c0 := hM.st.cell 0
      have c1 := hM.st.cell 1
      have r0 := hM.ret.cell 0
      have r1 := hM.ret.cell 1
      have f0 := hM.ret.frozen 0
      have f1 := hM.ret.frozen 1
      simp at c0 c1 r0 r1
      obtain ⟨wz, H4, hz4⟩ := ((hM.setr 0 (.bool (decide (0 < i))) rfl).setr (r' := scs (decide (0 < i)) (num (sup k0 k1 b i))) 1 (.int .u64 (num (sup k0 k1 b i))) rfl).name
      have hfin := HFIN.out
      generalize num (sup k0 k1 b i) = x at *
      generalize hdd : decide (0 < i) = d at *
      clear HM hM HQM HQN
      go_wp2
      rw [hz4.out]
      have q0 := H4.ret.cell 0
      have q1 := H4.ret.cell 1
      simp at q0 q1
      refine bodyPost_ret (v := .agg #[.bool d, .int .u64 x]) (by simp [results, Try.results23, go_sem, q0, q1]) rfl ⟨by rw [hfin], H4.below⟩

end Go.Proofs.Ytimlcjdpnhhjdaa.rk
