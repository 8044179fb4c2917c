/-
  Given for the seat's laws: the contract of the law's low. No condition but those of the theorem.
-/
import Derived.Test.YtkclhfoeimbikaaDoorKPrint
namespace Go.Proofs.YtkclhfoeimbikaaDoor.hd
open Go.RowKit mem
set_option linter.unusedVariables false

structure LwL (w : World) (l : Str) (fs : Flds) (A : Option Addr) (n c : Nat) (wr : World) (i : Nat) (A2 : Option Addr) (c2 : Nat) : Prop where
  mt : Lies wr (w.heap.size + 2) 25 #[.string (S l), .slice A2 i c2]
  mf : RowF wr w.heap.size (.slice A2 i c2) (lowF (fs.take i))
  box : Lies wr w.heap.size 25 #[.string (S l), .slice A n c]
  res : Lies wr (w.heap.size + 1) 25 #[.string ⟨#[]⟩, .slice none 0 0]
  be : Below w.heap.size w wr
theorem lwl_next {w : World} {l : Str} {fs : Flds} {A : Option Addr} {n c : Nat} {wr w3 : World} {i : Nat} {A2 : Option Addr} {c2 : Nat} (H : LwL w l fs A n c wr i A2 c2) {p : Str × Str} (hp : fs[i]? = some p) (hi : i ≤ 1000) (h3 : Below wr.heap.size wr w3) :
    ∃ A3 c3 W4, (Builtin.append_ #[23, 23] 23 #[.slice A2 i c2, .slice (some ⟨w3.heap.size, 0, none⟩) 1 1]).run Tryd.prog (w3.alloc (.cells #[.string (S (low p.1)), .string (S p.2)] 49)) = .ok (.slice A3 (i + 1 : Nat) c3) W4 ∧
      W4.cell? ⟨w.heap.size + 2, 1, none⟩ = some (.slice A2 i c2) ∧ W4.frozen? ⟨w.heap.size + 2, 1, none⟩ = false ∧ Below w.heap.size w W4 ∧ W4.cell? ⟨w.heap.size, 1, none⟩ = some (.slice A n c) ∧ LwL w l fs A n c (W4.setCell ⟨w.heap.size + 2, 1, none⟩ (.slice A3 (i + 1 : Nat) c3)) (i + 1) A3 c3 := by
  have hil : (lowF (fs.take i)).length = i := by
    have := (List.getElem?_eq_some_iff.1 hp).1
    rw [lowF_len, List.length_take]; omega
  have hm3 := H.mt.below h3 H.mt.lt
  have hf3 := rown_same H.mf fun g hg => h3.block g (rown_lt H.mf hg).2
  have hx3 := H.box.below h3 H.box.lt
  have hr3 := H.res.below h3 H.res.lt
  have hB : w.heap.size ≤ w3.heap.size := by have := hx3.lt; omega
  obtain ⟨A3, c3, W4, hrun, ho, hk⟩ := pushF hf3 hil hB (low p.1, p.2) (by omega)
  have ne : ∀ {g : Nat} {cs : Array Value}, Lies w3 g 25 cs → (Value.slice A2 i c2).ownBlock ≠ some g := fun h => rown_ne hf3 h (by decide)
  have hm4 : Lies W4 (w.heap.size + 2) 25 #[.string (S l), .slice A2 i c2] := hm3.of_same (hk.block _ hm3.lt (ne hm3))
  have hx4 : Lies W4 w.heap.size 25 #[.string (S l), .slice A n c] := hx3.of_same (hk.block _ hx3.lt (ne hx3))
  have hr4 : Lies W4 (w.heap.size + 1) 25 #[.string ⟨#[]⟩, .slice none 0 0] := hr3.of_same (hk.block _ hr3.lt (ne hr3))
  have hb4 : Below w.heap.size w W4 := (H.be.trans (h3.mono H.be.size)).trans (hk.below hB fun k h1 h2 => by have := (rown_lt hf3 h2).1; omega)
  refine ⟨A3, c3, W4, hrun, hm4.cell 1, hm4.frozen 1, hb4, hx4.cell 1, hm4.set 1 _, ?_, hx4.far (p := ⟨w.heap.size + 2, 1, none⟩) (by show w.heap.size ≠ w.heap.size + 2; omega) _, hr4.far (p := ⟨w.heap.size + 2, 1, none⟩) (by show w.heap.size + 1 ≠ w.heap.size + 2; omega) _, hb4.setCell (p := ⟨w.heap.size + 2, 1, none⟩) (by show w.heap.size ≤ w.heap.size + 2; omega) _⟩
  rw [lowF_add hp]
  exact rown_same ho fun g hg => Below.heap_setCell _ _ _ _ fun e => rown_ne ho hm4 (by decide) (by rw [hg]; exact congrArg some e)
def LowTo (l : Str) (fs : Flds) (w : World) (e : Ending) (w' : World) : Prop := ∃ A c, e = .returned (.agg #[.string (S l), .slice A fs.length c]) ∧ RowF w' w.heap.size (.slice A fs.length c) (lowF fs) ∧ Below w.heap.size w w'
theorem lw_start (w : World) (l : Str) (fs : Flds) (A : Option Addr) (n c : Nat) : LwL w l fs A n c (((w.alloc (.cells #[.string (S l), .slice A n c] 25)).alloc (.cells #[.string ⟨#[]⟩, .slice none 0 0] 25)).alloc (.cells #[.string (S l), .slice none 0 0] 25)) 0 none 0 := by
  have h1 := Lies.new w 25 #[.string (S l), .slice A n c]
  have h2 := Lies.new (w.alloc (.cells #[.string (S l), .slice A n c] 25)) 25 #[.string ⟨#[]⟩, .slice none 0 0]
  have h3 := Lies.new ((w.alloc (.cells #[.string (S l), .slice A n c] 25)).alloc (.cells #[.string ⟨#[]⟩, .slice none 0 0] 25)) 25 #[.string (S l), .slice none 0 0]
  have z1 : (w.alloc (.cells #[.string (S l), .slice A n c] 25)).heap.size = w.heap.size + 1 := by simp
  have z2 : ((w.alloc (.cells #[.string (S l), .slice A n c] 25)).alloc (.cells #[.string ⟨#[]⟩, .slice none 0 0] 25)).heap.size = w.heap.size + 2 := by simp
  rw [z1] at h2
  rw [z2] at h3
  exact ⟨h3, rowF_nil _ _, (h1.alloc _).alloc _, h2.alloc _, (((Below.refl _ _).alloc (Nat.le_refl _) _).alloc (by simp) _).alloc (by simp; omega) _⟩
set_option maxHeartbeats 4000000 in
set_option maxRecDepth 100000 in
theorem low_any {w : World} {ok : Nat → Prop} {A : Option Addr} {n c : Nat} {l : Str} {fs : Flds} (hf : FAt w ok A n c fs) (hok : ∀ g, ok g → g < w.heap.size) (hz : Small l fs) : Calls Tryd.prog 23 #[.agg #[.string (S l), .slice A n c]] w (LowTo l fs w) := by
  have HN := Bx.mk hf.len
  have HF := Bx.mk hf
  have HO := Bx.mk hok
  have HZ := Bx.mk hz
  have hn30 : n ≤ 30 := by have := hz.most; rw [HN.out] at this; exact this
  have H0 := Bx.mk (lw_start w l fs A n c)
  clear hf hok hz
  go_enter Tryd.func23, Tryd.ntmps23
  go_upto_region 2 with fail
  generalize ((w.alloc (.cells #[.string (S l), .slice A n c] 25)).alloc (.cells #[.string ⟨#[]⟩, .slice none 0 0] 25)).alloc (.cells #[.string (S l), .slice none 0 0] 25) = W0 at *
  go_wp2_with fail
  go_loopw [4] (fun s4 wr => ∃ (i : Nat) (A2 : Option Addr) (c2 : Nat), i ≤ n ∧ s4 = .int .i64 (i : Int) ∧ Bx (LwL w l fs A n c wr i A2 c2)) (fun s4 _ => n - (intOf s4).toNat)
  case atStart => exact ⟨0, none, 0, by omega, rfl, H0⟩
  case round =>
    clear H0
    obtain ⟨i, A2, c2, hi, rfl, H⟩ := hrel
    have b1 := H.out.box.cell 1
    simp at b1
    by_cases hlt : i < n
    · obtain ⟨p, hp⟩ : ∃ p, fs[i]? = some p := ⟨_, List.getElem?_eq_getElem (by rw [HN.out]; exact hlt)⟩
      obtain ⟨g, off, rfl, hg, y0, y1⟩ := (HF.out.below H.out.be HO.out).at hp
      have hgw := HO.out g hg
      have i0 : (0 : Int) ≤ (i : Int) := by omega
      have i1 : (i : Int) < (n : Int) := by omega
      have hpz := HZ.out.flds p (List.mem_of_getElem? hp)
      have HPp := Bx.mk hp
      have HLw := Bx.mk (Lower_any p.1 (by omega))
      have z0 : wr.cell? ⟨w.heap.size + 2, 1, none⟩ = some (.slice A2 i c2) := H.out.mt.cell 1
      have hgm := H.out.mt.lt
      have HC : Bx (∀ W', Below wr.heap.size wr W' → W'.cell? ⟨w.heap.size, 1, none⟩ = some (.slice (some ⟨g, off, none⟩) n c) ∧ W'.cell? ⟨g, off + i * 2, none⟩ = some (.string (S p.1)) ∧ W'.cell? ⟨g, off + i * 2 + 1, none⟩ = some (.string (S p.2))) := ⟨fun W' hb => ⟨cell_kept b1 hb, cell_kept y0 hb, cell_kept y1 hb⟩⟩
      have HV : Bx (∀ W', Below wr.heap.size wr W' → W'.cell? ⟨w.heap.size + 2, 1, none⟩ = some (.slice A2 i c2)) := ⟨fun W' hb => cell_kept z0 hb⟩
      have HD : Bx (∀ W', Below w.heap.size w W' → W'.cell? ⟨g, off + i * 2, none⟩ = some (.string (S p.1)) ∧ W'.cell? ⟨g, off + i * 2 + 1, none⟩ = some (.string (S p.2))) := ⟨fun W' hb => by
        obtain ⟨g', off', e, _, q0, q1⟩ := (HF.out.below hb HO.out).at hp
        cases e
        exact ⟨q0, q1⟩⟩
      have b0 : Below wr.heap.size wr wr.drew := (Below.refl _ _).drew
      clear hp hg hpz y0 y1
      go_wp2_with fail
      go_upto_region 5 with fail
      refine wp_region_held_drew (S := fun W' => W'.cell? ⟨w.heap.size, 1, none⟩ = some (.slice (some ⟨g, off, none⟩) n c) ∧ W'.cell? ⟨g, off + i * 2, none⟩ = some (.string (S p.1)) ∧ W'.cell? ⟨g, off + i * 2 + 1, none⟩ = some (.string (S p.2))) (by kernel_rfl) (HC.out _ b0) (fun hHeld => ?_)
      refine wpAnyH_take (i := 0) (oi := { dst := some 15, op := Op.fieldAddr 25 (Operand.tmp 3) 1, type := 0, pos := "outright.go:38", after := #[], guard := none }) (v := ?v1) rfl (by kernel_rfl) (by kernel_rfl) (by kernel_rfl) (fun _ _ _ h => h) (Or.inl ⟨by rfl, ?y1⟩) hHeld ?r1
      case y1 => (intro W hSw; (try dsimp only at hSw); go_simp; try with_reducible rfl)
      try simp only [Act.put, List.setIfInBounds_toArray, List.set_cons_zero, List.set_cons_succ]
      refine wpAnyH_take (i := 2) (oi := { dst := some 17, op := Op.fieldAddr 25 (Operand.tmp 1) 1, type := 0, pos := "outright.go:38", after := #[], guard := none }) (v := ?v2) rfl (by kernel_rfl) (by kernel_rfl) (by kernel_rfl) (fun _ _ _ h => h) (Or.inl ⟨by rfl, ?y2⟩) hHeld ?r2
      case y2 => (intro W hSw; (try dsimp only at hSw); go_simp; try with_reducible rfl)
      try simp only [Act.put, List.setIfInBounds_toArray, List.set_cons_zero, List.set_cons_succ]
      refine wpAnyH_take (i := 3) (oi := { dst := some 18, op := Op.load 23 (Operand.tmp 17), type := 23, pos := "outright.go:38", after := #[{ on := 2, ground := Ground.data }], guard := none }) (v := ?v3) rfl (by kernel_rfl) (by kernel_rfl) (by kernel_rfl) (fun _ _ _ h => h) (Or.inl ⟨by rfl, ?y3⟩) hHeld ?r3
      case y3 => (intro W hSw; (try dsimp only at hSw); go_simp; try with_reducible rfl)
      try simp only [Act.put, List.setIfInBounds_toArray, List.set_cons_zero, List.set_cons_succ]
      refine wpAnyH_take (i := 4) (oi := { dst := some 19, op := Op.move (Operand.tmp 4), type := 3, pos := "outright.go:38", after := #[], guard := none }) (v := ?v4) rfl (by kernel_rfl) (by kernel_rfl) (by kernel_rfl) (fun _ _ _ h => h) (Or.inl ⟨by rfl, ?y4⟩) hHeld ?r4
      case y4 => (intro W hSw; (try dsimp only at hSw); go_simp; try with_reducible rfl)
      try simp only [Act.put, List.setIfInBounds_toArray, List.set_cons_zero, List.set_cons_succ]
      refine wpAnyH_take (i := 5) (oi := { dst := some 20, op := Op.indexAddr 23 (Operand.tmp 18) (Operand.tmp 19), type := 0, pos := "outright.go:38", after := #[{ on := 3, ground := Ground.data }, { on := 4, ground := Ground.data }], guard := none }) (v := ?v5) rfl (by kernel_rfl) (by kernel_rfl) (by kernel_rfl) (fun _ _ _ h => h) (Or.inl ⟨by rfl, ?y5⟩) hHeld ?r5
      case y5 => (intro W hSw; (try dsimp only at hSw); go_simp; try with_reducible rfl)
      try simp only [Act.put, List.setIfInBounds_toArray, List.set_cons_zero, List.set_cons_succ]
      refine wpAnyH_take (i := 6) (oi := { dst := some 21, op := Op.indexAddr 49 (Operand.tmp 20) (Operand.const (Value.int IntKind.i64 0)), type := 0, pos := "outright.go:38", after := #[{ on := 5, ground := Ground.data }], guard := none }) (v := ?v6) rfl (by kernel_rfl) (by kernel_rfl) (by kernel_rfl) (fun _ _ _ h => h) (Or.inl ⟨by rfl, ?y6⟩) hHeld ?r6
      case y6 => (intro W hSw; (try dsimp only at hSw); go_simp; try with_reducible rfl)
      try simp only [Act.put, List.setIfInBounds_toArray, List.set_cons_zero, List.set_cons_succ]
      refine wpAnyH_take (i := 7) (oi := { dst := some 22, op := Op.load 9 (Operand.tmp 21), type := 9, pos := "outright.go:38", after := #[{ on := 6, ground := Ground.data }], guard := none }) (v := ?v7) rfl (by kernel_rfl) (by kernel_rfl) (by kernel_rfl) (fun _ _ _ h => h) (Or.inl ⟨by rfl, ?y7⟩) hHeld ?r7
      case y7 => (intro W hSw; (try dsimp only at hSw); go_simp; try with_reducible rfl)
      try simp only [Act.put, List.setIfInBounds_toArray, List.set_cons_zero, List.set_cons_succ]
      refine wpAnyH_take (i := 9) (oi := { dst := some 24, op := Op.fieldAddr 25 (Operand.tmp 1) 1, type := 0, pos := "outright.go:38", after := #[], guard := none }) (v := ?v8) rfl (by kernel_rfl) (by kernel_rfl) (by kernel_rfl) (fun _ _ _ h => h) (Or.inl ⟨by rfl, ?y8⟩) hHeld ?r8
      case y8 => (intro W hSw; (try dsimp only at hSw); go_simp; try with_reducible rfl)
      try simp only [Act.put, List.setIfInBounds_toArray, List.set_cons_zero, List.set_cons_succ]
      refine wpAnyH_take (i := 10) (oi := { dst := some 25, op := Op.load 23 (Operand.tmp 24), type := 23, pos := "outright.go:38", after := #[{ on := 9, ground := Ground.data }], guard := none }) (v := ?v9) rfl (by kernel_rfl) (by kernel_rfl) (by kernel_rfl) (fun _ _ _ h => h) (Or.inl ⟨by rfl, ?y9⟩) hHeld ?r9
      case y9 => (intro W hSw; (try dsimp only at hSw); go_simp; try with_reducible rfl)
      try simp only [Act.put, List.setIfInBounds_toArray, List.set_cons_zero, List.set_cons_succ]
      refine wpAnyH_take (i := 11) (oi := { dst := some 26, op := Op.move (Operand.tmp 4), type := 3, pos := "outright.go:38", after := #[], guard := none }) (v := ?v10) rfl (by kernel_rfl) (by kernel_rfl) (by kernel_rfl) (fun _ _ _ h => h) (Or.inl ⟨by rfl, ?y10⟩) hHeld ?r10
      case y10 => (intro W hSw; (try dsimp only at hSw); go_simp; try with_reducible rfl)
      try simp only [Act.put, List.setIfInBounds_toArray, List.set_cons_zero, List.set_cons_succ]
      refine wpAnyH_take (i := 12) (oi := { dst := some 27, op := Op.indexAddr 23 (Operand.tmp 25) (Operand.tmp 26), type := 0, pos := "outright.go:38", after := #[{ on := 10, ground := Ground.data }, { on := 11, ground := Ground.data }], guard := none }) (v := ?v11) rfl (by kernel_rfl) (by kernel_rfl) (by kernel_rfl) (fun _ _ _ h => h) (Or.inl ⟨by rfl, ?y11⟩) hHeld ?r11
      case y11 => (intro W hSw; (try dsimp only at hSw); go_simp; try with_reducible rfl)
      try simp only [Act.put, List.setIfInBounds_toArray, List.set_cons_zero, List.set_cons_succ]
      refine wpAnyH_take (i := 13) (oi := { dst := some 28, op := Op.indexAddr 49 (Operand.tmp 27) (Operand.const (Value.int IntKind.i64 1)), type := 0, pos := "outright.go:38", after := #[{ on := 12, ground := Ground.data }], guard := none }) (v := ?v12) rfl (by kernel_rfl) (by kernel_rfl) (by kernel_rfl) (fun _ _ _ h => h) (Or.inl ⟨by rfl, ?y12⟩) hHeld ?r12
      case y12 => (intro W hSw; (try dsimp only at hSw); go_simp; try with_reducible rfl)
      try simp only [Act.put, List.setIfInBounds_toArray, List.set_cons_zero, List.set_cons_succ]
      refine wpAnyH_take (i := 14) (oi := { dst := some 29, op := Op.load 9 (Operand.tmp 28), type := 9, pos := "outright.go:38", after := #[{ on := 13, ground := Ground.data }], guard := none }) (v := ?v13) rfl (by kernel_rfl) (by kernel_rfl) (by kernel_rfl) (fun _ _ _ h => h) (Or.inl ⟨by rfl, ?y13⟩) hHeld ?r13
      case y13 => (intro W hSw; (try dsimp only at hSw); go_simp; try with_reducible rfl)
      try simp only [Act.put, List.setIfInBounds_toArray, List.set_cons_zero, List.set_cons_succ]
      refine wpAnyH_ready (rs := [1, 8]) (by kernel_rfl) (by simp) (AllReadyH.cons (o := { dst := some 16, op := Op.load 23 (Operand.tmp 15), type := 23, pos := "outright.go:38", after := #[{ on := 0, ground := Ground.data }], guard := none }) rfl (fun K hK => ?_) (AllReadyH.cons (o := { dst := some 23, op := Op.call { callee := Callee.value (Operand.func 20), args := #[Operand.tmp 22], argTypes := #[9] }, type := 9, pos := "outright.go:38", after := #[{ on := 7, ground := Ground.data }], guard := none }) rfl (fun K hK => ?_) AllReadyH.nil))
      · go_simp
        refine hK.out _ _ (by first | exact HC.out _ b0 | exact HC.out _ (b0.alloc b0.size _) | exact ⟨x1, HD.out _ be4⟩ | exact ⟨hprl.box.cell 1, HD.out _ hprl.be⟩) (fun hHeld => ?_)
        clear hK K
        try simp only [Act.put, List.setIfInBounds_toArray, List.set_cons_zero, List.set_cons_succ]
        refine wpAnyH_ready (rs := [8]) (by kernel_rfl) (by simp) (AllReadyH.cons (o := { dst := some 23, op := Op.call { callee := Callee.value (Operand.func 20), args := #[Operand.tmp 22], argTypes := #[9] }, type := 9, pos := "outright.go:38", after := #[{ on := 7, ground := Ground.data }], guard := none }) rfl (fun K hK => ?_) AllReadyH.nil)
        go_simp
        refine (HLw.out _).mono ?_
        rintro e w3 ⟨rfl, hb3⟩
        replace b0 := b0.trans (hb3.mono b0.size)
        obtain ⟨A4, c4, W4, hrun, q0, q1, be4, x1, hprl⟩ := lwl_next H.out HPp.out (by omega) b0
        have v0 := HV.out _ b0
        have hgm3 := Nat.lt_of_lt_of_le hgm b0.size
        clear hb3
        refine hK.out _ _ (by first | exact HC.out _ b0 | exact HC.out _ (b0.alloc b0.size _) | exact ⟨x1, HD.out _ be4⟩ | exact ⟨hprl.box.cell 1, HD.out _ hprl.be⟩) (fun hHeld => ?_)
        clear hK K
        try simp only [Act.put, List.setIfInBounds_toArray, List.set_cons_zero, List.set_cons_succ]
        refine wpAnyH_take (i := 15) (oi := { dst := some 30, op := Op.build 49 #[(0, Operand.tmp 23), (1, Operand.tmp 29)], type := 49, pos := "outright.go:38", after := #[{ on := 8, ground := Ground.data }, { on := 14, ground := Ground.data }], guard := none }) (v := ?v14) rfl (by kernel_rfl) (by kernel_rfl) (by kernel_rfl) (fun _ _ _ h => h) (Or.inl ⟨by rfl, ?y14⟩) hHeld ?r14
        case y14 => (intro W hSw; (try dsimp only at hSw); go_simp; try with_reducible rfl)
        try simp only [Act.put, List.setIfInBounds_toArray, List.set_cons_zero, List.set_cons_succ]
        refine wpAnyH_ready (rs := [16]) (by kernel_rfl) (by simp) (AllReadyH.cons (o := { dst := some 31, op := Op.buildSlice 23 1 #[(0, Operand.tmp 30)], type := 23, pos := "outright.go:38", after := #[{ on := 15, ground := Ground.data }], guard := none }) rfl (fun K hK => ?_) AllReadyH.nil)
        go_simp
        refine hK.out _ _ (by first | exact HC.out _ b0 | exact HC.out _ (b0.alloc b0.size _) | exact ⟨x1, HD.out _ be4⟩ | exact ⟨hprl.box.cell 1, HD.out _ hprl.be⟩) (fun hHeld => ?_)
        clear hK K
        try simp only [Act.put, List.setIfInBounds_toArray, List.set_cons_zero, List.set_cons_succ]
        refine wpAnyH_ready (rs := [17]) (by kernel_rfl) (by simp) (AllReadyH.cons (o := { dst := some 32, op := Op.call { callee := Callee.builtin Builtin.append, args := #[Operand.tmp 16, Operand.tmp 31], argTypes := #[23, 23] }, type := 23, pos := "outright.go:38", after := #[{ on := 1, ground := Ground.data }, { on := 16, ground := Ground.data }, { on := 8, ground := Ground.chain }], guard := none }) rfl (fun K hK => ?_) AllReadyH.nil)
        refine step_append_eq rfl _ _ 23 23 rfl rfl (by simp [Act.eval]) (by simp [Act.eval]) hrun ?_
        refine hK.out _ _ (by first | exact HC.out _ b0 | exact HC.out _ (b0.alloc b0.size _) | exact ⟨x1, HD.out _ be4⟩ | exact ⟨hprl.box.cell 1, HD.out _ hprl.be⟩) (fun hHeld => ?_)
        clear hK K
        try simp only [Act.put, List.setIfInBounds_toArray, List.set_cons_zero, List.set_cons_succ]
        refine wpAnyH_take (i := 18) (oi := { dst := some 33, op := Op.fieldAddr 25 (Operand.tmp 3) 1, type := 0, pos := "outright.go:38", after := #[{ on := 0, ground := Ground.phase }, { on := 1, ground := Ground.phase }, { on := 2, ground := Ground.phase }, { on := 3, ground := Ground.phase }, { on := 4, ground := Ground.phase }, { on := 5, ground := Ground.phase }, { on := 6, ground := Ground.phase }, { on := 7, ground := Ground.phase }, { on := 8, ground := Ground.phase }, { on := 9, ground := Ground.phase }, { on := 10, ground := Ground.phase }, { on := 11, ground := Ground.phase }, { on := 12, ground := Ground.phase }, { on := 13, ground := Ground.phase }, { on := 14, ground := Ground.phase }, { on := 15, ground := Ground.phase }, { on := 16, ground := Ground.phase }, { on := 17, ground := Ground.phase }], guard := none }) (v := ?v15) rfl (by kernel_rfl) (by kernel_rfl) (by kernel_rfl) (fun _ _ _ h => h) (Or.inl ⟨by rfl, ?y15⟩) hHeld ?r15
        case y15 => (intro W hSw; (try dsimp only at hSw); go_simp; try with_reducible rfl)
        try simp only [Act.put, List.setIfInBounds_toArray, List.set_cons_zero, List.set_cons_succ]
        refine wpAnyH_ready (rs := [19]) (by kernel_rfl) (by simp) (AllReadyH.cons (o := { dst := none, op := Op.store 23 (Operand.tmp 33) (Operand.tmp 32), type := 0, pos := "outright.go:38", after := #[{ on := 18, ground := Ground.data }, { on := 17, ground := Ground.data }, { on := 17, ground := Ground.chain }, { on := 0, ground := Ground.phase }, { on := 1, ground := Ground.phase }, { on := 2, ground := Ground.phase }, { on := 3, ground := Ground.phase }, { on := 4, ground := Ground.phase }, { on := 5, ground := Ground.phase }, { on := 6, ground := Ground.phase }, { on := 7, ground := Ground.phase }, { on := 8, ground := Ground.phase }, { on := 9, ground := Ground.phase }, { on := 10, ground := Ground.phase }, { on := 11, ground := Ground.phase }, { on := 12, ground := Ground.phase }, { on := 13, ground := Ground.phase }, { on := 14, ground := Ground.phase }, { on := 15, ground := Ground.phase }, { on := 16, ground := Ground.phase }, { on := 17, ground := Ground.phase }], guard := none }) rfl (fun K hK => ?_) AllReadyH.nil)
        go_simp
        refine hK.out _ _ (by first | exact HC.out _ b0 | exact HC.out _ (b0.alloc b0.size _) | exact ⟨x1, HD.out _ be4⟩ | exact ⟨hprl.box.cell 1, HD.out _ hprl.be⟩) (fun hHeld => ?_)
        clear hK K
        try simp only [Act.put, List.setIfInBounds_toArray, List.set_cons_zero, List.set_cons_succ]
        refine wpAnyH_done (by kernel_rfl) ?_ _
        have HPN := Bx.mk hprl
        clear hrun q0 q1 be4 x1 hprl v0 z0 b1 HC HV HD HLw H
        go_wp2_with fail
        go_roundw
        case rel => exact ⟨i + 1, A4, c4, by omega, by go_num, HPN⟩
        case measure => simp [intOf]; omega
      · go_simp
        refine (HLw.out _).mono ?_
        rintro e w3 ⟨rfl, hb3⟩
        replace b0 := b0.trans (hb3.mono b0.size)
        obtain ⟨A4, c4, W4, hrun, q0, q1, be4, x1, hprl⟩ := lwl_next H.out HPp.out (by omega) b0
        have v0 := HV.out _ b0
        have hgm3 := Nat.lt_of_lt_of_le hgm b0.size
        clear hb3
        refine hK.out _ _ (by first | exact HC.out _ b0 | exact HC.out _ (b0.alloc b0.size _) | exact ⟨x1, HD.out _ be4⟩ | exact ⟨hprl.box.cell 1, HD.out _ hprl.be⟩) (fun hHeld => ?_)
        clear hK K
        try simp only [Act.put, List.setIfInBounds_toArray, List.set_cons_zero, List.set_cons_succ]
        refine wpAnyH_take (i := 15) (oi := { dst := some 30, op := Op.build 49 #[(0, Operand.tmp 23), (1, Operand.tmp 29)], type := 49, pos := "outright.go:38", after := #[{ on := 8, ground := Ground.data }, { on := 14, ground := Ground.data }], guard := none }) (v := ?v16) rfl (by kernel_rfl) (by kernel_rfl) (by kernel_rfl) (fun _ _ _ h => h) (Or.inl ⟨by rfl, ?y16⟩) hHeld ?r16
        case y16 => (intro W hSw; (try dsimp only at hSw); go_simp; try with_reducible rfl)
        try simp only [Act.put, List.setIfInBounds_toArray, List.set_cons_zero, List.set_cons_succ]
        refine wpAnyH_ready (rs := [1, 16]) (by kernel_rfl) (by simp) (AllReadyH.cons (o := { dst := some 16, op := Op.load 23 (Operand.tmp 15), type := 23, pos := "outright.go:38", after := #[{ on := 0, ground := Ground.data }], guard := none }) rfl (fun K hK => ?_) (AllReadyH.cons (o := { dst := some 31, op := Op.buildSlice 23 1 #[(0, Operand.tmp 30)], type := 23, pos := "outright.go:38", after := #[{ on := 15, ground := Ground.data }], guard := none }) rfl (fun K hK => ?_) AllReadyH.nil))
        · go_simp
          refine hK.out _ _ (by first | exact HC.out _ b0 | exact HC.out _ (b0.alloc b0.size _) | exact ⟨x1, HD.out _ be4⟩ | exact ⟨hprl.box.cell 1, HD.out _ hprl.be⟩) (fun hHeld => ?_)
          clear hK K
          try simp only [Act.put, List.setIfInBounds_toArray, List.set_cons_zero, List.set_cons_succ]
          refine wpAnyH_ready (rs := [16]) (by kernel_rfl) (by simp) (AllReadyH.cons (o := { dst := some 31, op := Op.buildSlice 23 1 #[(0, Operand.tmp 30)], type := 23, pos := "outright.go:38", after := #[{ on := 15, ground := Ground.data }], guard := none }) rfl (fun K hK => ?_) AllReadyH.nil)
          go_simp
          refine hK.out _ _ (by first | exact HC.out _ b0 | exact HC.out _ (b0.alloc b0.size _) | exact ⟨x1, HD.out _ be4⟩ | exact ⟨hprl.box.cell 1, HD.out _ hprl.be⟩) (fun hHeld => ?_)
          clear hK K
          try simp only [Act.put, List.setIfInBounds_toArray, List.set_cons_zero, List.set_cons_succ]
          refine wpAnyH_ready (rs := [17]) (by kernel_rfl) (by simp) (AllReadyH.cons (o := { dst := some 32, op := Op.call { callee := Callee.builtin Builtin.append, args := #[Operand.tmp 16, Operand.tmp 31], argTypes := #[23, 23] }, type := 23, pos := "outright.go:38", after := #[{ on := 1, ground := Ground.data }, { on := 16, ground := Ground.data }, { on := 8, ground := Ground.chain }], guard := none }) rfl (fun K hK => ?_) AllReadyH.nil)
          refine step_append_eq rfl _ _ 23 23 rfl rfl (by simp [Act.eval]) (by simp [Act.eval]) hrun ?_
          refine hK.out _ _ (by first | exact HC.out _ b0 | exact HC.out _ (b0.alloc b0.size _) | exact ⟨x1, HD.out _ be4⟩ | exact ⟨hprl.box.cell 1, HD.out _ hprl.be⟩) (fun hHeld => ?_)
          clear hK K
          try simp only [Act.put, List.setIfInBounds_toArray, List.set_cons_zero, List.set_cons_succ]
          refine wpAnyH_take (i := 18) (oi := { dst := some 33, op := Op.fieldAddr 25 (Operand.tmp 3) 1, type := 0, pos := "outright.go:38", after := #[{ on := 0, ground := Ground.phase }, { on := 1, ground := Ground.phase }, { on := 2, ground := Ground.phase }, { on := 3, ground := Ground.phase }, { on := 4, ground := Ground.phase }, { on := 5, ground := Ground.phase }, { on := 6, ground := Ground.phase }, { on := 7, ground := Ground.phase }, { on := 8, ground := Ground.phase }, { on := 9, ground := Ground.phase }, { on := 10, ground := Ground.phase }, { on := 11, ground := Ground.phase }, { on := 12, ground := Ground.phase }, { on := 13, ground := Ground.phase }, { on := 14, ground := Ground.phase }, { on := 15, ground := Ground.phase }, { on := 16, ground := Ground.phase }, { on := 17, ground := Ground.phase }], guard := none }) (v := ?v17) rfl (by kernel_rfl) (by kernel_rfl) (by kernel_rfl) (fun _ _ _ h => h) (Or.inl ⟨by rfl, ?y17⟩) hHeld ?r17
          case y17 => (intro W hSw; (try dsimp only at hSw); go_simp; try with_reducible rfl)
          try simp only [Act.put, List.setIfInBounds_toArray, List.set_cons_zero, List.set_cons_succ]
          refine wpAnyH_ready (rs := [19]) (by kernel_rfl) (by simp) (AllReadyH.cons (o := { dst := none, op := Op.store 23 (Operand.tmp 33) (Operand.tmp 32), type := 0, pos := "outright.go:38", after := #[{ on := 18, ground := Ground.data }, { on := 17, ground := Ground.data }, { on := 17, ground := Ground.chain }, { on := 0, ground := Ground.phase }, { on := 1, ground := Ground.phase }, { on := 2, ground := Ground.phase }, { on := 3, ground := Ground.phase }, { on := 4, ground := Ground.phase }, { on := 5, ground := Ground.phase }, { on := 6, ground := Ground.phase }, { on := 7, ground := Ground.phase }, { on := 8, ground := Ground.phase }, { on := 9, ground := Ground.phase }, { on := 10, ground := Ground.phase }, { on := 11, ground := Ground.phase }, { on := 12, ground := Ground.phase }, { on := 13, ground := Ground.phase }, { on := 14, ground := Ground.phase }, { on := 15, ground := Ground.phase }, { on := 16, ground := Ground.phase }, { on := 17, ground := Ground.phase }], guard := none }) rfl (fun K hK => ?_) AllReadyH.nil)
          go_simp
          refine hK.out _ _ (by first | exact HC.out _ b0 | exact HC.out _ (b0.alloc b0.size _) | exact ⟨x1, HD.out _ be4⟩ | exact ⟨hprl.box.cell 1, HD.out _ hprl.be⟩) (fun hHeld => ?_)
          clear hK K
          try simp only [Act.put, List.setIfInBounds_toArray, List.set_cons_zero, List.set_cons_succ]
          refine wpAnyH_done (by kernel_rfl) ?_ _
          have HPN := Bx.mk hprl
          clear hrun q0 q1 be4 x1 hprl v0 z0 b1 HC HV HD HLw H
          go_wp2_with fail
          go_roundw
          case rel => exact ⟨i + 1, A4, c4, by omega, by go_num, HPN⟩
          case measure => simp [intOf]; omega
        · go_simp
          refine hK.out _ _ (by first | exact HC.out _ b0 | exact HC.out _ (b0.alloc b0.size _) | exact ⟨x1, HD.out _ be4⟩ | exact ⟨hprl.box.cell 1, HD.out _ hprl.be⟩) (fun hHeld => ?_)
          clear hK K
          try simp only [Act.put, List.setIfInBounds_toArray, List.set_cons_zero, List.set_cons_succ]
          refine wpAnyH_ready (rs := [1]) (by kernel_rfl) (by simp) (AllReadyH.cons (o := { dst := some 16, op := Op.load 23 (Operand.tmp 15), type := 23, pos := "outright.go:38", after := #[{ on := 0, ground := Ground.data }], guard := none }) rfl (fun K hK => ?_) AllReadyH.nil)
          go_simp
          refine hK.out _ _ (by first | exact HC.out _ b0 | exact HC.out _ (b0.alloc b0.size _) | exact ⟨x1, HD.out _ be4⟩ | exact ⟨hprl.box.cell 1, HD.out _ hprl.be⟩) (fun hHeld => ?_)
          clear hK K
          try simp only [Act.put, List.setIfInBounds_toArray, List.set_cons_zero, List.set_cons_succ]
          refine wpAnyH_ready (rs := [17]) (by kernel_rfl) (by simp) (AllReadyH.cons (o := { dst := some 32, op := Op.call { callee := Callee.builtin Builtin.append, args := #[Operand.tmp 16, Operand.tmp 31], argTypes := #[23, 23] }, type := 23, pos := "outright.go:38", after := #[{ on := 1, ground := Ground.data }, { on := 16, ground := Ground.data }, { on := 8, ground := Ground.chain }], guard := none }) rfl (fun K hK => ?_) AllReadyH.nil)
          refine step_append_eq rfl _ _ 23 23 rfl rfl (by simp [Act.eval]) (by simp [Act.eval]) hrun ?_
          refine hK.out _ _ (by first | exact HC.out _ b0 | exact HC.out _ (b0.alloc b0.size _) | exact ⟨x1, HD.out _ be4⟩ | exact ⟨hprl.box.cell 1, HD.out _ hprl.be⟩) (fun hHeld => ?_)
          clear hK K
          try simp only [Act.put, List.setIfInBounds_toArray, List.set_cons_zero, List.set_cons_succ]
          refine wpAnyH_take (i := 18) (oi := { dst := some 33, op := Op.fieldAddr 25 (Operand.tmp 3) 1, type := 0, pos := "outright.go:38", after := #[{ on := 0, ground := Ground.phase }, { on := 1, ground := Ground.phase }, { on := 2, ground := Ground.phase }, { on := 3, ground := Ground.phase }, { on := 4, ground := Ground.phase }, { on := 5, ground := Ground.phase }, { on := 6, ground := Ground.phase }, { on := 7, ground := Ground.phase }, { on := 8, ground := Ground.phase }, { on := 9, ground := Ground.phase }, { on := 10, ground := Ground.phase }, { on := 11, ground := Ground.phase }, { on := 12, ground := Ground.phase }, { on := 13, ground := Ground.phase }, { on := 14, ground := Ground.phase }, { on := 15, ground := Ground.phase }, { on := 16, ground := Ground.phase }, { on := 17, ground := Ground.phase }], guard := none }) (v := ?v18) rfl (by kernel_rfl) (by kernel_rfl) (by kernel_rfl) (fun _ _ _ h => h) (Or.inl ⟨by rfl, ?y18⟩) hHeld ?r18
          case y18 => (intro W hSw; (try dsimp only at hSw); go_simp; try with_reducible rfl)
          try simp only [Act.put, List.setIfInBounds_toArray, List.set_cons_zero, List.set_cons_succ]
          refine wpAnyH_ready (rs := [19]) (by kernel_rfl) (by simp) (AllReadyH.cons (o := { dst := none, op := Op.store 23 (Operand.tmp 33) (Operand.tmp 32), type := 0, pos := "outright.go:38", after := #[{ on := 18, ground := Ground.data }, { on := 17, ground := Ground.data }, { on := 17, ground := Ground.chain }, { on := 0, ground := Ground.phase }, { on := 1, ground := Ground.phase }, { on := 2, ground := Ground.phase }, { on := 3, ground := Ground.phase }, { on := 4, ground := Ground.phase }, { on := 5, ground := Ground.phase }, { on := 6, ground := Ground.phase }, { on := 7, ground := Ground.phase }, { on := 8, ground := Ground.phase }, { on := 9, ground := Ground.phase }, { on := 10, ground := Ground.phase }, { on := 11, ground := Ground.phase }, { on := 12, ground := Ground.phase }, { on := 13, ground := Ground.phase }, { on := 14, ground := Ground.phase }, { on := 15, ground := Ground.phase }, { on := 16, ground := Ground.phase }, { on := 17, ground := Ground.phase }], guard := none }) rfl (fun K hK => ?_) AllReadyH.nil)
          go_simp
          refine hK.out _ _ (by first | exact HC.out _ b0 | exact HC.out _ (b0.alloc b0.size _) | exact ⟨x1, HD.out _ be4⟩ | exact ⟨hprl.box.cell 1, HD.out _ hprl.be⟩) (fun hHeld => ?_)
          clear hK K
          try simp only [Act.put, List.setIfInBounds_toArray, List.set_cons_zero, List.set_cons_succ]
          refine wpAnyH_done (by kernel_rfl) ?_ _
          have HPN := Bx.mk hprl
          clear hrun q0 q1 be4 x1 hprl v0 z0 b1 HC HV HD HLw H
          go_wp2_with fail
          go_roundw
          case rel => exact ⟨i + 1, A4, c4, by omega, by go_num, HPN⟩
          case measure => simp [intOf]; omega
    · obtain rfl : i = n := by omega
      have hfull : fs.take i = fs := List.take_of_length_le (by rw [HN.out]; exact Nat.le_refl _)
      have q0 := H.out.res.cell 0; have q1 := H.out.res.cell 1
      have f0 := H.out.res.frozen 0; have f1 := H.out.res.frozen 1
      have z0 := H.out.mt.cell 0; have z1 := H.out.mt.cell 1
      simp at q0 q1 z0 z1
      have HE : Bx (LowTo l fs w (.returned (.agg #[.string (S l), .slice A2 i c2])) ((wr.setCell ⟨w.heap.size + 1, 0, none⟩ (.string (S l))).setCell ⟨w.heap.size + 1, 1, none⟩ (.slice A2 i c2))) := ⟨by
        have hmf := H.out.mf
        rw [hfull] at hmf
        refine ⟨A2, c2, by rw [HN.out], ?_, (H.out.be.setCell (p := ⟨w.heap.size + 1, 0, none⟩) (by show w.heap.size ≤ w.heap.size + 1; omega) _).setCell (p := ⟨w.heap.size + 1, 1, none⟩) (by show w.heap.size ≤ w.heap.size + 1; omega) _⟩
        rw [HN.out]
        have ne : ∀ k, (Value.slice A2 i c2).ownBlock = some k → k ≠ w.heap.size + 1 := fun k hk e => rown_ne hmf H.out.res (by decide) (by rw [hk]; exact congrArg some e)
        exact rown_same (rown_same hmf fun k hk => Below.heap_setCell _ _ _ _ (ne k hk)) fun k hk => Below.heap_setCell _ _ _ _ (ne k hk)⟩
      clear H hfull
      go_wp2_with fail
      refine bodyPost_ret (v := .agg #[.string (S l), .slice A2 i c2]) (by simp [results, Tryd.results23, go_sem, q0, q1]) rfl HE.out
end Go.Proofs.YtkclhfoeimbikaaDoor.hd
