/-
  Given for the seat's laws: the contracts of the program's state at the beginning, of a word, of the end. No condition but those of the theorems.
-/
import Derived.Test.YtimlcjdpnhhjdaaPRnd
namespace Go.Proofs.Ytimlcjdpnhhjdaa.sp
open Go.RowKit mem
set_option linter.unusedVariables false

/-- a state of the call's own, what it tells, and the rest as it was -/
structure PW (w : World) (s : St) (r : Array Value) (wr : World) : Prop where
  st : Lies wr w.heap.size 88 (sc s)
  ret : Lies wr (w.heap.size + 1) 88 r
  below : Below w.heap.size w wr
abbrev zeros : Array Value := #[.int .u64 0, .int .u64 0, .int .u64 0, .int .u64 0]
section
variable {w wr w2 : World} {s s' : St} {r r' : Array Value}
theorem PW.start (w : World) (s : St) : PW w s zeros ((w.alloc (.cells (sc s) 88)).alloc (.cells zeros 88)) := by
  refine ⟨(Lies.new w 88 (sc s)).alloc _, ?_, ((Below.refl _ _).alloc (Nat.le_refl _) _).alloc (by simp) _⟩
  have := Lies.new (w.alloc (.cells (sc s) 88)) 88 zeros
  simpa using this
theorem PW.set (h : PW w s r wr) (i : Nat) (x : W64) (e : (sc s).setIfInBounds i (.int .u64 (num x)) = sc s') : PW w s' r (wr.setCell ⟨w.heap.size, i, none⟩ (.int .u64 (num x))) :=
  ⟨by rw [← e]; exact h.st.set i _, h.ret.far (p := ⟨w.heap.size, i, none⟩) (by show w.heap.size + 1 ≠ w.heap.size; omega) _, h.below.setCell (p := ⟨w.heap.size, i, none⟩) (Nat.le_refl _) _⟩
theorem PW.set2 (h : PW w s r wr) (i : Nat) (x : W64) (e : r.setIfInBounds i (.int .u64 (num x)) = r') : PW w s r' (wr.setCell ⟨w.heap.size + 1, i, none⟩ (.int .u64 (num x))) :=
  ⟨h.st.far (p := ⟨w.heap.size + 1, i, none⟩) (by show w.heap.size ≠ w.heap.size + 1; omega) _, by rw [← e]; exact h.ret.set i _, h.below.setCell (p := ⟨w.heap.size + 1, i, none⟩) (by show w.heap.size ≤ w.heap.size + 1; omega) _⟩
theorem PW.fresh (h : PW w s r wr) (hb : Below wr.heap.size wr w2) : PW w s r w2 :=
  ⟨h.st.below hb h.st.lt, h.ret.below hb h.ret.lt, h.below.trans (hb.mono h.below.size)⟩
theorem PW.name (h : PW w s r wr) : ∃ wz, PW w s r wz ∧ Bx (wr = wz) := ⟨wr, h, ⟨rfl⟩⟩
theorem PW.cells (h : PW w s r wr) : wr.cell? ⟨w.heap.size, 0, none⟩ = some (.int .u64 (num s.a)) ∧ wr.cell? ⟨w.heap.size, 1, none⟩ = some (.int .u64 (num s.b)) ∧ wr.cell? ⟨w.heap.size, 2, none⟩ = some (.int .u64 (num s.c)) ∧ wr.cell? ⟨w.heap.size, 3, none⟩ = some (.int .u64 (num s.d)) :=
  ⟨h.st.cell 0, h.st.cell 1, h.st.cell 2, h.st.cell 3⟩
theorem PW.live (h : PW w s r wr) : wr.frozen? ⟨w.heap.size, 0, none⟩ = false ∧ wr.frozen? ⟨w.heap.size, 1, none⟩ = false ∧ wr.frozen? ⟨w.heap.size, 2, none⟩ = false ∧ wr.frozen? ⟨w.heap.size, 3, none⟩ = false :=
  ⟨h.st.frozen 0, h.st.frozen 1, h.st.frozen 2, h.st.frozen 3⟩
theorem PW.cells2 {t : St} (h : PW w s (sc t) wr) : wr.cell? ⟨w.heap.size + 1, 0, none⟩ = some (.int .u64 (num t.a)) ∧ wr.cell? ⟨w.heap.size + 1, 1, none⟩ = some (.int .u64 (num t.b)) ∧ wr.cell? ⟨w.heap.size + 1, 2, none⟩ = some (.int .u64 (num t.c)) ∧ wr.cell? ⟨w.heap.size + 1, 3, none⟩ = some (.int .u64 (num t.d)) :=
  ⟨h.ret.cell 0, h.ret.cell 1, h.ret.cell 2, h.ret.cell 3⟩
theorem PW.cellsz (h : PW w s zeros wr) : wr.cell? ⟨w.heap.size + 1, 0, none⟩ = some (.int .u64 0) ∧ wr.cell? ⟨w.heap.size + 1, 1, none⟩ = some (.int .u64 0) ∧ wr.cell? ⟨w.heap.size + 1, 2, none⟩ = some (.int .u64 0) ∧ wr.cell? ⟨w.heap.size + 1, 3, none⟩ = some (.int .u64 0) :=
  ⟨h.ret.cell 0, h.ret.cell 1, h.ret.cell 2, h.ret.cell 3⟩
theorem PW.live2 (h : PW w s r wr) : wr.frozen? ⟨w.heap.size + 1, 0, none⟩ = false ∧ wr.frozen? ⟨w.heap.size + 1, 1, none⟩ = false ∧ wr.frozen? ⟨w.heap.size + 1, 2, none⟩ = false ∧ wr.frozen? ⟨w.heap.size + 1, 3, none⟩ = false :=
  ⟨h.ret.frozen 0, h.ret.frozen 1, h.ret.frozen 2, h.ret.frozen 3⟩
end

set_option maxHeartbeats 4000000 in
set_option maxRecDepth 100000 in
theorem word_any (s : St) (m : W64) (w : World) : Calls Try.prog 55 #[sv s, .int .u64 (num m)] w fun e w' => e = .returned (sv (wd s m)) ∧ Below w.heap.size w w' := by
  obtain ⟨a, b, c, d⟩ := s
  have r2 : ∀ t W, Calls Try.prog 62 #[sv t, .int .i64 2] W fun e w' => e = .returned (sv (rnds 2 t)) ∧ Below W.heap.size W w' := fun t W => rounds_any t 2 (by omega) W
  have R2 := Lib.hid r2
  have hxr := bits_xr
  clear r2
  obtain ⟨d1, hd1⟩ : ∃ y, xr d m = y := ⟨_, rfl⟩
  obtain ⟨t, ht⟩ : ∃ y, rnds 2 ⟨a, b, c, d1⟩ = y := ⟨_, rfl⟩
  obtain ⟨ta, tb, tc, td⟩ := t
  obtain ⟨a2, ha2⟩ : ∃ y, xr ta m = y := ⟨_, rfl⟩
  have hw : wd ⟨a, b, c, d⟩ m = ⟨a2, tb, tc, td⟩ := by
    show (let t := rnds 2 ⟨a, b, c, xr d m⟩; (⟨xr t.a m, t.b, t.c, t.d⟩ : St)) = _
    rw [hd1, ht]
    show (⟨xr ta m, tb, tc, td⟩ : St) = _
    rw [ha2]
  have HW : Bx _ := ⟨hw⟩
  have HT : Bx _ := ⟨ht⟩
  have H1 := Lib.hid (PW.start w ⟨a, b, c, d1⟩)
  clear hw ht
  go_enter Try.func55, Try.ntmps55
  go_wp2_with fail
  refine (R2.out ⟨a, b, c, d1⟩ _).mono ?_
  rintro e w2 ⟨rfl, hb⟩
  have H2 := Lib.hid (H1.out.fresh hb)
  rw [HT.out]
  clear hb H1
  have H3 := Lib.hid (((((H2.out.set (s' := ⟨ta, b, c, d1⟩) 0 ta rfl).set (s' := ⟨ta, tb, c, d1⟩) 1 tb rfl).set (s' := ⟨ta, tb, tc, d1⟩) 2 tc rfl).set (s' := ⟨ta, tb, tc, td⟩) 3 td rfl).set (s' := ⟨a2, tb, tc, td⟩) 0 a2 rfl)
  obtain ⟨wz, H4, hz⟩ := ((((H3.out.set2 0 a2 rfl).set2 1 tb rfl).set2 2 tc rfl).set2 (r' := sc ⟨a2, tb, tc, td⟩) 3 td rfl).name
  obtain ⟨c0, c1, c2, c3⟩ := H2.out.cells
  obtain ⟨f0, f1, f2, f3⟩ := H2.out.live
  obtain ⟨y0, y1, y2, y3⟩ := H2.out.cellsz
  obtain ⟨z0, z1, z2, z3⟩ := H2.out.live2
  go_wp2_with fail
  rw [hz.out]
  obtain ⟨k0, k1, k2, k3⟩ := H4.cells2
  refine bodyPost_ret (v := sv ⟨a2, tb, tc, td⟩) (by simp [results, Try.results55, go_sem, k0, k1, k2, k3]) rfl ⟨by rw [HW.out], H4.below⟩

set_option maxHeartbeats 4000000 in
set_option maxRecDepth 100000 in
theorem last_any (s : St) (w : World) : Calls Try.prog 56 #[sv s] w fun e w' => e = .returned (.int .u64 (num (fin s))) ∧ Below w.heap.size w w' := by
  obtain ⟨a, b, c, d⟩ := s
  have r4 : ∀ t W, Calls Try.prog 62 #[sv t, .int .i64 4] W fun e w' => e = .returned (sv (rnds 4 t)) ∧ Below W.heap.size W w' := fun t W => rounds_any t 4 (by omega) W
  have R4 := Lib.hid r4
  have hxr := bits_xr
  have h255 : ∀ x, bits .xor .u64 (num x) 255 = num (xr x (mk 255)) := fun x => bits_xr x (mk 255)
  clear r4
  obtain ⟨c1, hc1⟩ : ∃ y, xr c (mk 255) = y := ⟨_, rfl⟩
  have h255c := h255 c
  rw [hc1] at h255c
  clear h255
  obtain ⟨t, ht⟩ : ∃ y, rnds 4 ⟨a, b, c1, d⟩ = y := ⟨_, rfl⟩
  obtain ⟨ta, tb, tc, td⟩ := t
  have hw : fin ⟨a, b, c, d⟩ = xr (xr (xr ta tb) tc) td := by
    show (let t := rnds 4 ⟨a, b, xr c (mk 255), d⟩; xr (xr (xr t.a t.b) t.c) t.d) = _
    rw [hc1, ht]
  have HW : Bx _ := ⟨hw⟩
  have HT : Bx _ := ⟨ht⟩
  have H1 : Lies (w.alloc (.cells (sc ⟨a, b, c1, d⟩) 88)) w.heap.size 88 (sc ⟨a, b, c1, d⟩) := Lies.new _ _ _
  have HL := Lib.hid H1
  clear hw ht H1 hc1
  go_enter Try.func56, Try.ntmps56
  go_wp2_with fail
  refine (R4.out ⟨a, b, c1, d⟩ _).mono ?_
  rintro e w2 ⟨rfl, hb⟩
  have H2 := HL.out.below hb (by simp)
  rw [HT.out]
  have HB := Lib.hid (((Below.refl _ _).alloc (Nat.le_refl w.heap.size) _).trans (hb.mono (by simp)))
  clear hb HL
  have c0 := H2.cell 0; have c1' := H2.cell 1; have c2 := H2.cell 2; have c3 := H2.cell 3
  have f0 := H2.frozen 0; have f1 := H2.frozen 1; have f2 := H2.frozen 2; have f3 := H2.frozen 3
  clear H2
  go_wp2_with fail
  go_ret
  exact ⟨by rw [HW.out]; rfl, (((HB.out.setCell (by simp) _).setCell (by simp) _).setCell (by simp) _).setCell (by simp) _⟩

set_option maxHeartbeats 4000000 in
set_option maxRecDepth 100000 in
theorem init_any (k0 k1 : W64) (w : World) : Calls Try.prog 53 #[.int .u64 (num k0), .int .u64 (num k1)] w fun e w' => e = .returned (sv (init k0 k1)) ∧ Below w.heap.size w w' := by
  have h1 : bits .xor .u64 (num k0) 8317987319222330741 = num (xr k0 (mk 8317987319222330741)) := bits_xr k0 (mk 8317987319222330741)
  have h2 : bits .xor .u64 (num k1) 7237128888997146477 = num (xr k1 (mk 7237128888997146477)) := bits_xr k1 (mk 7237128888997146477)
  have h3 : bits .xor .u64 (num k0) 7816392313619706465 = num (xr k0 (mk 7816392313619706465)) := bits_xr k0 (mk 7816392313619706465)
  have h4 : bits .xor .u64 (num k1) 8387220255154660723 = num (xr k1 (mk 8387220255154660723)) := bits_xr k1 (mk 8387220255154660723)
  have hI : init k0 k1 = ⟨xr k0 (mk 8317987319222330741), xr k1 (mk 7237128888997146477), xr k0 (mk 7816392313619706465), xr k1 (mk 8387220255154660723)⟩ := rfl
  obtain ⟨a, ha⟩ : ∃ y, xr k0 (mk 8317987319222330741) = y := ⟨_, rfl⟩
  obtain ⟨b, hb⟩ : ∃ y, xr k1 (mk 7237128888997146477) = y := ⟨_, rfl⟩
  obtain ⟨c, hc⟩ : ∃ y, xr k0 (mk 7816392313619706465) = y := ⟨_, rfl⟩
  obtain ⟨d, hd⟩ : ∃ y, xr k1 (mk 8387220255154660723) = y := ⟨_, rfl⟩
  rw [ha] at h1 hI
  rw [hb] at h2 hI
  rw [hc] at h3 hI
  rw [hd] at h4 hI
  have HI : Bx _ := ⟨hI⟩
  clear hI ha hb hc hd
  go_enter Try.func53, Try.ntmps53
  go_wp2_with fail
  refine bodyPost_ret (v := sv ⟨a, b, c, d⟩) (by simp [results, Try.results53, go_sem]) rfl ⟨by rw [HI.out], ?_⟩
  first | exact (Below.refl _ _).alloc (Nat.le_refl _) _ | exact ((((((Below.refl _ _).alloc (Nat.le_refl _) _).setCell (Nat.le_refl _) _).setCell (Nat.le_refl _) _).setCell (Nat.le_refl _) _).setCell (Nat.le_refl _) _)
end Go.Proofs.Ytimlcjdpnhhjdaa.sp
