/-
  Given for the seat's laws: the contract of connect.Take. No condition but those of the theorems.
-/
import Derived.Test.YtghdaengkgiekaaGreatDoorYCAsk
import Derived.Laws.StructEq
namespace Go.Proofs.YtghdaengkgiekaaGreatDoor.cn
open Go.RowKit mem hd
set_option linter.unusedVariables false

theorem results_ctake {W : World} {h : Nat} {v0 v1 v2 v3 v4 v5 v6 v7 : Value} (hl : Lies W h 27 #[v0, v1, v2, v3, v4, v5, v6, v7]) (tmps : Array Value) (h2 : tmps[2]?.getD undef = .pointer (some ⟨h, 0, none⟩)) {u3 u4 : Value} (h3 : tmps[3]?.getD undef = u3) (h4 : tmps[4]?.getD undef = u4) :
    (results Tryz.f17 tmps).run Tryz.prog W = .ok (.tuple #[.agg #[v0, v1, v2, v3, v4, v5, v6, v7], u3, u4]) W := by
  obtain ⟨c0, c1, c2, c3, c4, c5, c6, c7⟩ := eight hl
  simp [results, Tryz.results17, go_sem, h2, h3, h4, c0, c1, c2, c3, c4, c5, c6, c7]
def CTakeTo (x : A × Nat × Nat) (w : World) (e : Ending) (w' : World) : Prop := Gives (.tuple #[av x.1, .int .i64 (x.2.1 : Int), .int .i64 (x.2.2 : Int)]) w e w'
theorem size_ge {fs : Flds} {p : Str × Str} (h : p ∈ fs) : p.2.length ≤ sizeF fs := by
  induction fs with
  | nil => cases h
  | cons q r ih =>
    have e : sizeF (q :: r) = (q.1.length + q.2.length + 3) + sizeF r := by simp [sizeF]
    rw [e]
    rcases List.mem_cons.1 h with rfl | h
    · omega
    · have := ih h; omega
theorem take_sizes {b l : Str} {fs : Flds} {n e : Nat} (h : take b = (l, fs, n, e)) : l.length ≤ 512 ∧ (∀ p ∈ fs, p.2.length ≤ 512) ∧ n ≤ 512 := by
  rcases go_kinds hd.start 0 b with ⟨a, _, _, a4⟩ | ⟨a, _⟩ | a | a
  · rw [show hd.go hd.start 0 b = _ from h] at a a4
    simp at a a4
    subst a
    obtain ⟨h1, h2, h3⟩ := take_inv h
    unfold size at h3
    exact ⟨by omega, fun p hp => by have := size_ge hp; omega, a4⟩
  all_goals
    rw [show hd.go hd.start 0 b = _ from h] at a
    simp at a
    obtain ⟨rfl, rfl, rfl, _⟩ := a
    simp
set_option maxRecDepth 100000 in
set_option maxHeartbeats 8000000 in
theorem ctake_any {w : World} (he : hw.Env w) {A : Option Addr} {n c : Nat} {b : Str} (hs : Spell w (fun g => g < w.heap.size) A n c b) : Calls Tryz.prog 17 #[.slice A n c] w (CTakeTo (ctake b) w) := by
  obtain ⟨l, fs, m, e, hx⟩ : ∃ l fs m e, take b = (l, fs, m, e) := ⟨_, _, _, _, rfl⟩
  obtain ⟨hl, hv, hm⟩ := take_sizes hx
  have hmost := take_most hx
  have hb1 : Below w.heap.size w (w.alloc (.cells #[.int .u8 0, .string ⟨#[]⟩, .int .i64 0, .bool false, .string ⟨#[]⟩, .string ⟨#[]⟩, .bool false, .string ⟨#[]⟩] 27)) := (Below.refl _ _).alloc (Nat.le_refl _) _
  have HR1 : Bx (Lies (w.alloc (.cells #[.int .u8 0, .string ⟨#[]⟩, .int .i64 0, .bool false, .string ⟨#[]⟩, .string ⟨#[]⟩, .bool false, .string ⟨#[]⟩] 27)) w.heap.size 27 zc) := ⟨Lies.new _ _ _⟩
  have HBE1 := Bx.mk hb1
  have HE := Bx.mk he
  have HX := Bx.mk hx
  have HV := Bx.mk hv
  have HTk := Bx.mk (take_any0 ((hs.below hb1 (fun g hg => hg)).weak (ok' := fun g => g < (w.alloc (.cells #[.int .u8 0, .string ⟨#[]⟩, .int .i64 0, .bool false, .string ⟨#[]⟩, .string ⟨#[]⟩, .bool false, .string ⟨#[]⟩] 27)).heap.size) fun g hg => Nat.lt_of_lt_of_le hg hb1.size) (fun g hg => hg))
  clear he hs hb1 hx hv
  go_enter Tryz.func17, Tryz.ntmps17
  go_upto_region 1 with fail
  generalize w.alloc (.cells #[.int .u8 0, .string ⟨#[]⟩, .int .i64 0, .bool false, .string ⟨#[]⟩, .string ⟨#[]⟩, .bool false, .string ⟨#[]⟩] 27) = W1 at *
  go_wp2_with fail
  refine HTk.out.mono ?_
  intro en w4 ht
  obtain ⟨A4, c4, rfl, hf4, hb4⟩ := take_r HX.out ht
  obtain ⟨k, hk⟩ : ∃ k, fs.length = k := ⟨_, rfl⟩
  rw [hk] at hf4 hmost ⊢
  have hal : Below w4.heap.size w4 (w4.alloc (.cells #[.string (S l), .slice A4 k c4] 47)) := (Below.refl _ _).alloc (Nat.le_refl _) _
  have hb5 := hb4.alloc hb4.size (.cells #[.string (S l), .slice A4 k c4] 47)
  have HL := Bx.mk (Lies.new w4 47 #[.string (S l), .slice A4 k c4])
  have HF5 := Bx.mk (fat_nx hf4 hal)
  have HR5 := Bx.mk (HR1.out.below hb5 HR1.out.lt)
  have HBE5 := Bx.mk (HBE1.out.trans (hb5.mono HBE1.out.size))
  clear ht hf4 hb4 hal hb5 HTk HR1 HBE1 hk
  go_upto_region 2 with fail
  generalize w4.alloc (.cells #[.string (S l), .slice A4 k c4] 47) = W5 at *
  generalize w4.heap.size = g5 at *
  obtain ⟨r0, r1, r2, r3, r4, r5, r6, r7⟩ := eight HR5.out
  have f0 := HR5.out.frozen 0; have f1 := HR5.out.frozen 1; have f2 := HR5.out.frozen 2; have f3 := HR5.out.frozen 3
  have f4 := HR5.out.frozen 4; have f5 := HR5.out.frozen 5; have f6 := HR5.out.frozen 6; have f7 := HR5.out.frozen 7
  by_cases h0 : e = 0
  · have q : ((e : Int) != 0) = false := by rw [h0]; rfl
    have z0 := HL.out.cell 0; have z1 := HL.out.cell 1
    simp at z0 z1
    have HA := Bx.mk (asked_any (HE.out.below HBE5.out) (l := l) HF5.out (by omega) (by omega) (fun p hp => by have := HV.out p hp; omega))
    obtain ⟨a, f, ha⟩ : ∃ a f, asked l fs = (a, f) := ⟨_, _, rfl⟩
    have hct : ctake b = if f ≠ 0 then (zero, 0, f) else (a, m, 0) := by
      unfold ctake
      rw [HX.out]
      dsimp only
      rw [if_neg (by simpa using h0), ha]
    unfold AskTo at HA
    rw [ha] at HA
    unfold av at HA
    have HCT := Bx.mk hct
    obtain ⟨va, hva⟩ : ∃ va, va = av a := ⟨_, rfl⟩
    have HVB := Bx.mk hva
    unfold av at hva
    dsimp only at HA
    generalize (a.k : Int) = ak at *
    generalize S a.t = at_ at *
    generalize a.p = ap at *
    generalize a.sg = asg at *
    generalize S a.us = aus at *
    generalize S a.ps = aps at *
    generalize a.hp = ahp at *
    generalize S a.tk = atk at *
    have HVA := Bx.mk hva
    clear ha hct h0 hva r0 r1 r2 r3 r4 r5 r6 r7 f0 f1 f2 f3 f4 f5 f6 f7
    go_wp2_with fail
    refine HA.out.mono ?_
    rintro e6 w6 ⟨rfl, hb6⟩
    have HR6 := Bx.mk (HR5.out.below hb6 HR5.out.lt)
    have HBE6 := Bx.mk (HBE5.out.trans (hb6.mono HBE5.out.size))
    have HPut := Bx.mk (ask_put HR6.out HBE6.out (Nat.le_refl _) (.int .u8 ak) (.string at_) (.int .i64 ap) (.bool asg) (.string aus) (.string aps) (.bool ahp) (.string atk))
    obtain ⟨r0, r1, r2, r3, r4, r5, r6, r7⟩ := eight HR6.out
    have f0 := HR6.out.frozen 0; have f1 := HR6.out.frozen 1; have f2 := HR6.out.frozen 2; have f3 := HR6.out.frozen 3
    have f4 := HR6.out.frozen 4; have f5 := HR6.out.frozen 5; have f6 := HR6.out.frozen 6; have f7 := HR6.out.frozen 7
    clear hb6 HR5 HBE5 HF5 HL HA
    go_upto_region 5 with fail
    clear r0 r1 r2 r3 r4 r5 r6 r7 f0 f1 f2 f3 f4 f5 f6 f7
    unfold put8 at HPut
    generalize (((((((w6.setCell ⟨w.heap.size, 0, none⟩ (.int .u8 ak)).setCell ⟨w.heap.size, 1, none⟩ (.string at_)).setCell ⟨w.heap.size, 2, none⟩ (.int .i64 ap)).setCell ⟨w.heap.size, 3, none⟩ (.bool asg)).setCell ⟨w.heap.size, 4, none⟩ (.string aus)).setCell ⟨w.heap.size, 5, none⟩ (.string aps)).setCell ⟨w.heap.size, 6, none⟩ (.bool ahp)).setCell ⟨w.heap.size, 7, none⟩ (.string atk) = W7 at *
    obtain ⟨r0, r1, r2, r3, r4, r5, r6, r7⟩ := eight HPut.out.1
    have f0 := HPut.out.1.frozen 0; have f1 := HPut.out.1.frozen 1; have f2 := HPut.out.1.frozen 2; have f3 := HPut.out.1.frozen 3
    have f4 := HPut.out.1.frozen 4; have f5 := HPut.out.1.frozen 5; have f6 := HPut.out.1.frozen 6; have f7 := HPut.out.1.frozen 7
    by_cases hf : f = 0
    · have q2 : ((f : Int) != 0) = false := by rw [hf]; rfl
      have HP2 := Bx.mk (ask_put HPut.out.1 HPut.out.2 (Nat.le_refl _) (.int .u8 ak) (.string at_) (.int .i64 ap) (.bool asg) (.string aus) (.string aps) (.bool ahp) (.string atk))
      have HF : Bx (CTakeTo (ctake b) w (.returned (.tuple #[.agg #[.int .u8 ak, .string at_, .int .i64 ap, .bool asg, .string aus, .string aps, .bool ahp, .string atk], .int .i64 (m : Int), .int .i64 0])) (put8 W7 w.heap.size (.int .u8 ak) (.string at_) (.int .i64 ap) (.bool asg) (.string aus) (.string aps) (.bool ahp) (.string atk))) := ⟨⟨by rw [HCT.out, if_neg (by simpa using hf), ← HVA.out, HVB.out]; rfl, HP2.out.2⟩⟩
      clear hf
      go_wp2_with fail
      exact bodyPost_ret (results_ctake HP2.out.1 _ rfl rfl rfl) rfl HF.out
    · have q2 : ((f : Int) != 0) = true := by simp; omega
      have HP2 := Bx.mk (ask_put HPut.out.1 HPut.out.2 (Nat.le_refl _) (.int .u8 0) (.string ⟨#[]⟩) (.int .i64 0) (.bool false) (.string ⟨#[]⟩) (.string ⟨#[]⟩) (.bool false) (.string ⟨#[]⟩))
      have HF : Bx (CTakeTo (ctake b) w (.returned (.tuple #[.agg zc, .int .i64 0, .int .i64 (f : Int)])) (put8 W7 w.heap.size (.int .u8 0) (.string ⟨#[]⟩) (.int .i64 0) (.bool false) (.string ⟨#[]⟩) (.string ⟨#[]⟩) (.bool false) (.string ⟨#[]⟩))) := ⟨⟨by rw [HCT.out, if_pos hf]; rfl, HP2.out.2⟩⟩
      clear hf
      go_wp2_with fail
      exact bodyPost_ret (results_ctake HP2.out.1 _ rfl rfl rfl) rfl HF.out
  · have q : ((e : Int) != 0) = true := by simp; omega
    have HP2 := Bx.mk (ask_put HR5.out HBE5.out (Nat.le_refl _) (.int .u8 0) (.string ⟨#[]⟩) (.int .i64 0) (.bool false) (.string ⟨#[]⟩) (.string ⟨#[]⟩) (.bool false) (.string ⟨#[]⟩))
    have hct : ctake b = (zero, 0, e) := by
      unfold ctake
      rw [HX.out]
      dsimp only
      rw [if_pos h0]
    have HF : Bx (CTakeTo (ctake b) w (.returned (.tuple #[.agg zc, .int .i64 0, .int .i64 (e : Int)])) (put8 W5 w.heap.size (.int .u8 0) (.string ⟨#[]⟩) (.int .i64 0) (.bool false) (.string ⟨#[]⟩) (.string ⟨#[]⟩) (.bool false) (.string ⟨#[]⟩))) := ⟨⟨by rw [hct]; rfl, HP2.out.2⟩⟩
    clear h0 hct
    go_wp2_with fail
    exact bodyPost_ret (results_ctake HP2.out.1 _ rfl rfl rfl) rfl HF.out
end Go.Proofs.YtghdaengkgiekaaGreatDoor.cn

/-
  Given for the seat's laws: the contracts of connect.statusOf, connect.TakeReply. No condition but those of the theorems.
-/
namespace Go.Proofs.YtghdaengkgiekaaGreatDoor.cn
open Go.RowKit mem hd
set_option linter.unusedVariables false

def StV (o : Option Nat) : Value := match o with
  | none => .tuple #[.int .i64 0, .bool false]
  | some s => .tuple #[.int .i64 (s : Int), .bool true]
def dg (c : UInt8) : Bool := decide (48 ≤ c.toNat) && decide (c.toNat ≤ 57)
theorem dig_add {d : Str} {i : Nat} {x : UInt8} (h : d[i]? = some x) : dig (d.take (i + 1)) = dig (d.take i) * 10 + (x.toNat - 48) := by
  unfold dig
  rw [List.take_add_one, h, List.foldl_append]
  rfl
theorem dg_bad {d : Str} {i : Nat} {x : UInt8} (h : d[i]? = some x) (hx : dg x = false) : d.all dg = false := by
  rw [List.all_eq_false]
  exact ⟨x, List.mem_of_getElem? h, by simp [hx]⟩
theorem dg_all {d : Str} (h : ∀ (j : Nat) (x : UInt8), d[j]? = some x → dg x = true) : d.all dg = true := by
  rw [List.all_eq_true]
  intro x hx
  obtain ⟨j, hj, e⟩ := List.getElem_of_mem hx
  exact h j x (by rw [List.getElem?_eq_getElem hj, e])
set_option maxRecDepth 100000 in
set_option maxHeartbeats 8000000 in
theorem statusOf_any {w : World} (he : hw.Env w) (l : Str) (hl : l.length ≤ 1000) : Calls Tryz.prog 39 #[.string (S l)] w (Gives (StV (stat l)) w) := by
  obtain ⟨f, r, g, hc⟩ : ∃ p r g, Lib.cut l [32] = (p, r, g) := ⟨_, _, _, rfl⟩
  obtain ⟨d, r2, g2, hc2⟩ : ∃ p r' g', Lib.cut r [32] = (p, r', g') := ⟨_, _, _, rfl⟩
  have hl1 := cut_lens l 32
  rw [hc] at hl1
  dsimp only at hl1
  have h1 := cut_any l (by omega) 32 w he
  rw [hc] at h1
  dsimp only at h1
  have h2 : ∀ w, hw.Env w → Calls Tryz.prog 67 #[.string (S r), .string ⟨#[32]⟩] w fun e w' => e = .returned (.tuple #[.string (S d), .string (S r2), .bool g2]) ∧ Below w.heap.size w w' := fun w he => by
    have h := cut_any r (by omega) 32 w he
    rw [hc2] at h
    exact h
  have hst : stat l = if (f ≠ HTTP11 ∧ f ≠ HTTP10) ∨ d.length ≠ 3 then none else if d.all dg = false then none else if dig d < 100 ∨ 599 < dig d then none else some (dig d) := by
    unfold stat
    rw [hc]
    dsimp only
    rw [hc2]
    rfl
  have H1 := Bx.mk h1; have H2 := Bx.mk h2; have HE := Bx.mk he; have HST := Bx.mk hst
  clear hst
  have hsz : (S d).size = d.length := S_size d
  clear hc hc2 h1 h2 he hl1 hl
  go_enter Tryz.func39, Tryz.ntmps39
  go_wp2_with fail
  refine H1.out.mono ?_
  rintro e w1 ⟨rfl, hb1⟩
  have HE1 := Bx.mk (HE.out.below hb1)
  have HB1 := Bx.mk hb1
  clear hb1 H1
  go_wp2_with fail
  refine (H2.out _ HE1.out).mono ?_
  rintro e w2 ⟨rfl, hb2⟩
  have HB2 := Bx.mk (HB1.out.trans (hb2.mono HB1.out.size))
  clear hb2 H2 HB1 HE1
  have hcs : ((S f).toList == ([72, 84, 84, 80, 47, 49, 46, 49] : List UInt8)) = true ∨ (((S f).toList == ([72, 84, 84, 80, 47, 49, 46, 49] : List UInt8)) = false ∧ ((S f).toList == ([72, 84, 84, 80, 47, 49, 46, 48] : List UInt8)) = true) ∨ (((S f).toList == ([72, 84, 84, 80, 47, 49, 46, 49] : List UInt8)) = false ∧ ((S f).toList == ([72, 84, 84, 80, 47, 49, 46, 48] : List UInt8)) = false ∧ f ≠ HTTP11 ∧ f ≠ HTTP10) := by
    rw [S_toList]
    by_cases h : f = HTTP11
    · exact .inl (by rw [h]; rfl)
    · by_cases h' : f = HTTP10
      · exact .inr (.inl ⟨beq_eq_false_iff_ne.2 h, by rw [h']; rfl⟩)
      · exact .inr (.inr ⟨beq_eq_false_iff_ne.2 h, beq_eq_false_iff_ne.2 h', h, h'⟩)
  have hgood : ((S f).toList == ([72, 84, 84, 80, 47, 49, 46, 49] : List UInt8)) = true ∨ ((S f).toList == ([72, 84, 84, 80, 47, 49, 46, 48] : List UInt8)) = true → ¬ (f ≠ HTTP11 ∧ f ≠ HTTP10) := fun h ⟨a, b⟩ => by
    rw [S_toList] at h
    rcases h with h | h
    · exact a (eq_of_beq h)
    · exact b (eq_of_beq h)
  have HG := Bx.mk hgood
  clear hgood
  rcases hcs with q | ⟨q, q'⟩ | ⟨q, q', hf⟩
  rotate_left 2
  · have HN : Bx (Gives (StV (stat l)) w (.returned (.tuple #[.int .i64 0, .bool false])) w2) := ⟨⟨by rw [HST.out, if_pos (.inl hf)]; rfl, HB2.out⟩⟩
    clear hf
    go_wp2_with fail
    exact bodyPost_ret (v := .tuple #[.int .i64 0, .bool false]) (by simp [results, Tryz.results39, go_sem]) rfl HN.out
  all_goals
    have HGd : Bx (¬ (f ≠ HTTP11 ∧ f ≠ HTTP10)) := ⟨HG.out (by first | exact .inl q | exact .inr q')⟩
    by_cases h3 : d.length = 3
    · rw [h3] at hsz
      have HST2 : Bx (stat l = if d.all dg = false then none else if dig d < 100 ∨ 599 < dig d then none else some (dig d)) := ⟨by rw [HST.out, if_neg (fun h => h.elim HGd.out (fun h => h h3))]⟩
      have HD3 := Bx.mk h3
      obtain ⟨ds, hds⟩ : ∃ ds, ds = S d := ⟨_, rfl⟩
      rw [← hds] at hsz ⊢
      have HDS := Bx.mk hds
      clear h3 hds HST HG HGd
      go_wp2_with fail
      go_loopw [10, 38] (fun s10 s38 wr => ∃ i : Nat, i ≤ 3 ∧ s38 = .int .i64 (i : Int) ∧ s10 = .int .i64 (dig (d.take i) : Int) ∧ dig (d.take i) < 10 ^ i ∧ wr = w2 ∧ Bx (∀ j x, j < i → d[j]? = some x → dg x = true)) (fun _ s38 _ => 3 - (intOf s38).toNat)
      case atStart => exact ⟨0, by omega, rfl, rfl, by simp [dig], rfl, ⟨fun j x hj => by omega⟩⟩
      case round =>
        obtain ⟨i, hi, rfl, rfl, hdl, hww, HJ⟩ := hrel
        replace hww := hww.symm
        subst hww
        by_cases hlt : i < 3
        · obtain ⟨x, hx⟩ : ∃ x, d[i]? = some x := ⟨_, List.getElem?_eq_getElem (by rw [HD3.out]; exact hlt)⟩
          have hix := str_at HDS.out i x hx
          have i0 : (0 : Int) ≤ (i : Int) := by omega
          have i1 : (i : Int) < 3 := by omega
          by_cases ha : x.toNat < 48
          · have q4 : (x.toNat : Int) < 48 := by omega
            have HN : Bx (Gives (StV (stat l)) w (.returned (.tuple #[.int .i64 0, .bool false])) w2) := ⟨⟨by rw [HST2.out, if_pos (dg_bad hx (by simp [dg]; omega))]; rfl, HB2.out⟩⟩
            generalize (x.toNat : Int) = z at *
            clear hx ha hdl HJ
            go_wp2_with fail
            exact bodyPost_ret (v := .tuple #[.int .i64 0, .bool false]) (by simp [results, Tryz.results39, go_sem]) rfl HN.out
          have q4 : ¬ (x.toNat : Int) < 48 := by omega
          by_cases hb : 57 < x.toNat
          · have q5 : (57 : Int) < (x.toNat : Int) := by omega
            have HN : Bx (Gives (StV (stat l)) w (.returned (.tuple #[.int .i64 0, .bool false])) w2) := ⟨⟨by rw [HST2.out, if_pos (dg_bad hx (by simp [dg]; omega))]; rfl, HB2.out⟩⟩
            generalize (x.toNat : Int) = z at *
            clear hx ha hb hdl HJ
            go_wp2_with fail
            exact bodyPost_ret (v := .tuple #[.int .i64 0, .bool false]) (by simp [results, Tryz.results39, go_sem]) rfl HN.out
          have q5 : ¬ (57 : Int) < (x.toNat : Int) := by omega
          have hadd := dig_add hx
          have h10 : (10 : Nat) ^ (i + 1) = 10 ^ i * 10 := Nat.pow_succ 10 i
          have hp : (10 : Nat) ^ i ≤ 100 := by
            rcases (show i = 0 ∨ i = 1 ∨ i = 2 by omega) with rfl | rfl | rfl <;> decide
          have hnew : dig (d.take (i + 1)) < 10 ^ (i + 1) := by rw [hadd, h10]; omega
          have hw1 : IntKind.u8.wrap ((x.toNat : Int) - 48) = (x.toNat : Int) - 48 := by
            have := byte_all (fun x => decide (x.toNat < 48) || decide (57 < x.toNat) || decide (IntKind.u8.wrap ((x.toNat : Int) - 48) = (x.toNat : Int) - 48)) (by decide +kernel) x
            simp [ha, hb] at this
            exact this
          have hw2 : IntKind.i64.wrap ((x.toNat : Int) - 48) = (x.toNat : Int) - 48 := IntWalk.i64_in _ (by omega)
          have hw3 : IntKind.i64.wrap ((dig (d.take i) : Int) * 10) = (dig (d.take i) : Int) * 10 := IntWalk.i64_in _ (by omega)
          have hw4 : IntKind.i64.wrap ((dig (d.take i) : Int) * 10 + ((x.toNat : Int) - 48)) = (dig (d.take (i + 1)) : Int) := by rw [hadd, IntWalk.i64_in _ (by omega)]; omega
          have HJ2 : Bx (∀ j y, j < i + 1 → d[j]? = some y → dg y = true) := ⟨fun j y hj hy => by
            rcases (show j < i ∨ j = i by omega) with h | h
            · exact HJ.out j y h hy
            · rw [h, hx] at hy
              rw [← Option.some.inj hy]
              simp [dg]
              omega⟩
          have HNW := Bx.mk hnew
          generalize hz : (x.toNat : Int) = z at *
          clear hx ha hb hadd h10 hp hnew HJ hz
          go_wp2_with fail
          go_roundw
          case rel => exact ⟨i + 1, by omega, by go_num, by first | rfl | (trace_state; go_num), HNW.out, trivial, HJ2⟩
          case measure => simp [intOf]; omega
        · obtain rfl : i = 3 := by omega
          have e : d.take 3 = d := List.take_of_length_le (by rw [HD3.out]; exact Nat.le_refl _)
          rw [e] at hdl ⊢
          have hall : ¬ d.all dg = false := by
            rw [dg_all fun j x hx => HJ.out j x (by have := (List.getElem?_eq_some_iff.1 hx).1; rw [HD3.out] at this; exact this) hx]
            decide
          have hst := HST2.out
          rw [if_neg hall] at hst
          obtain ⟨k, hk⟩ : ∃ k, dig d = k := ⟨_, rfl⟩
          rw [hk] at hst hdl ⊢
          have i1 : ¬ (3 : Int) < 3 := by omega
          by_cases ha : k < 100
          · have q4 : (k : Int) < 100 := by omega
            have HN : Bx (Gives (StV (stat l)) w (.returned (.tuple #[.int .i64 0, .bool false])) w2) := ⟨⟨by rw [hst, if_pos (.inl ha)]; rfl, HB2.out⟩⟩
            clear hst ha hall e hk HJ hdl
            go_wp2_with fail
            exact bodyPost_ret (v := .tuple #[.int .i64 0, .bool false]) (by simp [results, Tryz.results39, go_sem]) rfl HN.out
          have q4 : ¬ (k : Int) < 100 := by omega
          by_cases hb : 599 < k
          · have q5 : (599 : Int) < (k : Int) := by omega
            have HN : Bx (Gives (StV (stat l)) w (.returned (.tuple #[.int .i64 0, .bool false])) w2) := ⟨⟨by rw [hst, if_pos (.inr hb)]; rfl, HB2.out⟩⟩
            clear hst ha hb hall e hk HJ hdl
            go_wp2_with fail
            exact bodyPost_ret (v := .tuple #[.int .i64 0, .bool false]) (by simp [results, Tryz.results39, go_sem]) rfl HN.out
          have q5 : ¬ (599 : Int) < (k : Int) := by omega
          have HN : Bx (Gives (StV (stat l)) w (.returned (.tuple #[.int .i64 (k : Int), .bool true])) w2) := ⟨⟨by rw [hst, if_neg (by omega)]; rfl, HB2.out⟩⟩
          clear hst ha hb hall e hk HJ hdl
          go_wp2_with fail
          exact bodyPost_ret (v := .tuple #[.int .i64 (k : Int), .bool true]) (by simp [results, Tryz.results39, go_sem]) rfl HN.out
    · obtain ⟨n, hn⟩ : ∃ n, d.length = n := ⟨_, rfl⟩
      have HN : Bx (Gives (StV (stat l)) w (.returned (.tuple #[.int .i64 0, .bool false])) w2) := ⟨⟨by rw [HST.out, if_pos (.inr h3)]; rfl, HB2.out⟩⟩
      rw [hn] at hsz h3
      have q4 : ((n : Int) != 3) = true := by simp; omega
      clear h3 hn
      go_wp2_with fail
      exact bodyPost_ret (v := .tuple #[.int .i64 0, .bool false]) (by simp [results, Tryz.results39, go_sem]) rfl HN.out
def RTakeTo (x : Nat × Nat × Nat) (w : World) (e : Ending) (w' : World) : Prop := Gives (.tuple #[.int .i64 (x.1 : Int), .int .i64 (x.2.1 : Int), .int .i64 (x.2.2 : Int)]) w e w'
set_option maxRecDepth 100000 in
set_option maxHeartbeats 4000000 in
theorem rtake_any {w : World} (he : hw.Env w) {A : Option Addr} {n c : Nat} {b : Str} (hs : Spell w (fun g => g < w.heap.size) A n c b) : Calls Tryz.prog 18 #[.slice A n c] w (RTakeTo (rtake b) w) := by
  obtain ⟨l, fs, m, e, hx⟩ : ∃ l fs m e, take b = (l, fs, m, e) := ⟨_, _, _, _, rfl⟩
  obtain ⟨hl, hv, hm⟩ := take_sizes hx
  have HE := Bx.mk he
  have HX := Bx.mk hx
  have HTk := Bx.mk (take_any0 hs (fun g hg => hg))
  clear he hs hx hv
  go_enter Tryz.func18, Tryz.ntmps18
  go_wp2_with fail
  refine HTk.out.mono ?_
  intro en w4 ht
  obtain ⟨A4, c4, rfl, hf4, hb4⟩ := take_r HX.out ht
  have hb5 := hb4.alloc hb4.size (.cells #[.string (S l), .slice A4 fs.length c4] 47)
  have HL := Bx.mk (Lies.new w4 47 #[.string (S l), .slice A4 fs.length c4])
  have HBE5 := Bx.mk hb5
  clear ht hf4 hb4 hb5 HTk
  go_upto_region 2 with fail
  generalize w4.alloc (.cells #[.string (S l), .slice A4 fs.length c4] 47) = W5 at *
  generalize w4.heap.size = g5 at *
  by_cases h0 : e = 0
  · have q : ((e : Int) != 0) = false := by rw [h0]; rfl
    have z0 := HL.out.cell 0
    simp at z0
    have HS := Bx.mk (statusOf_any (HE.out.below HBE5.out) l (by omega))
    have hrt : rtake b = (match stat l with
      | none => (0, 0, 6)
      | some s => (s, m, 0)) := by
      unfold rtake
      rw [HX.out]
      dsimp only
      rw [if_neg (by simpa using h0)]
      rfl
    cases hst : stat l with
    | none =>
      rw [hst] at HS hrt
      have hv : StV none = .tuple #[.int .i64 0, .bool false] := rfl
      rw [hv] at HS
      have HR := Bx.mk hrt
      clear hst hrt h0 hv
      go_wp2_with fail
      refine HS.out.mono ?_
      rintro e6 w6 ⟨rfl, hb6⟩
      have HF : Bx (RTakeTo (rtake b) w (.returned (.tuple #[.int .i64 0, .int .i64 0, .int .i64 6])) w6) := ⟨⟨by rw [HR.out]; rfl, HBE5.out.trans (hb6.mono HBE5.out.size)⟩⟩
      clear hb6
      go_wp2_with fail
      exact bodyPost_ret (v := .tuple #[.int .i64 0, .int .i64 0, .int .i64 6]) (by simp [results, Tryz.results18, go_sem]) rfl HF.out
    | some s =>
      rw [hst] at HS hrt
      have hv : StV (some s) = .tuple #[.int .i64 (s : Int), .bool true] := rfl
      rw [hv] at HS
      have HR := Bx.mk hrt
      clear hst hrt h0 hv
      go_wp2_with fail
      refine HS.out.mono ?_
      rintro e6 w6 ⟨rfl, hb6⟩
      have HF : Bx (RTakeTo (rtake b) w (.returned (.tuple #[.int .i64 (s : Int), .int .i64 (m : Int), .int .i64 0])) w6) := ⟨⟨by rw [HR.out]; rfl, HBE5.out.trans (hb6.mono HBE5.out.size)⟩⟩
      clear hb6
      go_wp2_with fail
      exact bodyPost_ret (v := .tuple #[.int .i64 (s : Int), .int .i64 (m : Int), .int .i64 0]) (by simp [results, Tryz.results18, go_sem]) rfl HF.out
  · have q : ((e : Int) != 0) = true := by simp; omega
    have hrt : rtake b = (0, 0, e) := by
      unfold rtake
      rw [HX.out]
      dsimp only
      rw [if_pos h0]
    have HF : Bx (RTakeTo (rtake b) w (.returned (.tuple #[.int .i64 0, .int .i64 0, .int .i64 (e : Int)])) W5) := ⟨⟨by rw [hrt]; rfl, HBE5.out⟩⟩
    clear h0 hrt
    go_wp2_with fail
    exact bodyPost_ret (v := .tuple #[.int .i64 0, .int .i64 0, .int .i64 (e : Int)]) (by simp [results, Tryz.results18, go_sem]) rfl HF.out
end Go.Proofs.YtghdaengkgiekaaGreatDoor.cn

/-
  Given for the seat's laws: two asks compared; the chapter's examples. No condition but those of the theorems.
-/
namespace Go.Proofs.YtghdaengkgiekaaGreatDoor.cn
open Go.RowKit mem hd
set_option linter.unusedVariables false

theorem eq_ask_d (d : Nat) (a b : A) (W : World) : (Op.equalIn (d + 4) 27 (av a) (av b)).run Tryz.prog W = .ok (decide (a = b)) W := by
  obtain ⟨k, t, p, sg, us, ps, hp, tk⟩ := a
  obtain ⟨k', t', p', sg', us', ps', hp', tk'⟩ := b
  unfold av
  rw [run_equalIn_struct W (d + 3) 27 _ _ (by kernel_rfl) (by kernel_rfl)]
  simp [go_sem, S_toList]
  have hk : ((k : Int) = (k' : Int)) ↔ k = k' := by omega
  simp only [hk]
  by_cases h1 : k = k'
  · rw [if_pos h1, decide_eq_true h1, Bool.true_and]
    by_cases h2 : t = t'
    · rw [if_pos h2, decide_eq_true h2, Bool.true_and]
      by_cases h3 : p = p'
      · rw [if_pos h3, decide_eq_true h3, Bool.true_and]
        by_cases h4 : sg = sg'
        · rw [if_pos h4, decide_eq_true h4, Bool.true_and]
          by_cases h5 : us = us'
          · rw [if_pos h5, decide_eq_true h5, Bool.true_and]
            by_cases h6 : ps = ps'
            · rw [if_pos h6, decide_eq_true h6, Bool.true_and]
              by_cases h7 : hp = hp'
              · rw [if_pos h7, decide_eq_true h7, Bool.true_and]
                by_cases h8 : tk = tk'
                · rw [if_pos h8, decide_eq_true h8]
                · rw [if_neg h8, decide_eq_false h8]
              · rw [if_neg h7, decide_eq_false h7, Bool.false_and]
            · rw [if_neg h6, decide_eq_false h6, Bool.false_and]
          · rw [if_neg h5, decide_eq_false h5, Bool.false_and]
        · rw [if_neg h4, decide_eq_false h4, Bool.false_and]
      · rw [if_neg h3, decide_eq_false h3, Bool.false_and]
    · rw [if_neg h2, decide_eq_false h2, Bool.false_and]
  · rw [if_neg h1, decide_eq_false h1, Bool.false_and]
theorem eq_ask (a b : A) (W : World) : (Op.equalIn 10000 27 (av a) (av b)).run Tryz.prog W = .ok (decide (a = b)) W := eq_ask_d 9996 a b W

/-! ### the chapter's examples -/
def eLine : Str := [67, 79, 78, 78, 69, 67, 84, 32, 97, 58, 56, 48, 32, 72, 84, 84, 80, 47, 49, 46, 49, 13, 10]
def eA : Str := [72, 111, 115, 116, 58, 32, 97, 13, 10, 13, 10]
def eB : Str := [72, 111, 115, 116, 58, 32, 97, 13, 10, 80, 114, 111, 120, 121, 45, 65, 117, 116, 104, 111, 114, 105, 122, 97, 116, 105, 111, 110, 58, 32, 98, 65, 83, 73, 67, 32, 100, 84, 112, 119, 79, 110, 69, 61, 13, 10, 72, 111, 112, 45, 84, 111, 107, 101, 110, 58, 32, 120, 44, 121, 13, 10, 13, 10]
def eC : Str := [71, 69, 84, 32, 97, 58, 56, 48, 32, 72, 84, 84, 80, 47, 49, 46, 49, 13, 10, 72, 111, 115, 116, 58, 32, 97, 13, 10, 13, 10]
def eD : Str := [71, 69, 84, 32, 47, 32, 72, 84, 84, 80, 47, 49, 46, 48, 13, 10, 13, 10]
def eE : Str := [67, 79, 78, 78, 69, 67, 84, 32, 97, 32, 72, 84, 84, 80, 47, 49, 46, 49, 13, 10, 72, 111, 115, 116, 58, 32, 97, 13, 10, 13, 10]
def eF : Str := [13, 10]
def eG : Str := [72, 111, 115, 116, 58, 32, 97, 13, 10, 104, 111, 115, 116, 58, 32, 97, 13, 10, 13, 10]
def aA : A := ⟨3, [97], 80, false, [], [], false, []⟩
def aB : A := ⟨3, [97], 80, true, [117], [112, 58, 113], true, [120, 44, 121]⟩
theorem exA : ctake (eLine ++ eA) = (aA, 34, 0) := by decide +kernel
theorem exB : ctake (eLine ++ eB) = (aB, 87, 0) := by decide +kernel
theorem exC : ctake eC = (zero, 0, 140) := by decide +kernel
theorem exD : ctake eD = (zero, 0, 6) := by decide +kernel
theorem exE : ctake eE = (zero, 0, 6) := by decide +kernel
theorem exF : ctake (eLine ++ eF) = (zero, 0, 6) := by decide +kernel
theorem exG : ctake (eLine ++ eG) = (zero, 0, 6) := by decide +kernel

def True_ (w : World) (e : Ending) (w' : World) : Prop := e = .returned (.bool true) ∧ Below w.heap.size w w'
/-- bytes made of a text, taken -/
theorem conv_take {w : World} (he : hw.Env w) (s : Str) (hs : s.length ≤ 3000) :
    Calls Tryz.prog 17 #[.slice (some ⟨w.heap.size, 0, none⟩) s.length (grownCap w s.length 0 5)] (Lib.bytesWorld w 5 (S s)) (CTakeTo (ctake s) (Lib.bytesWorld w 5 (S s))) :=
  ctake_any (he.below (conv_below (S s) w)) ((conv_row s w (by omega)).spell rfl)
set_option maxRecDepth 100000 in
set_option maxHeartbeats 4000000 in
theorem told_any {w : World} (he : hw.Env w) (k : Nat) (s : Str) (hs : s.length ≤ 3000) (hc : ctake s = (zero, 0, k)) : Calls Tryz.prog 37 #[.int .i64 (k : Int), .string (S s)] w (Gives (.bool true) w) := by
  have hT := conv_take he s hs
  have hconv := conv_any (S s) w
  rw [S_size] at hconv
  have hcb := conv_below (S s) w
  rw [hc] at hT
  have hT2 : Calls Tryz.prog 17 #[.slice (some ⟨w.heap.size, 0, none⟩) s.length (grownCap w s.length 0 5)] (Lib.bytesWorld w 5 (S s)) (Gives (.tuple #[.agg #[.int .u8 0, .string ⟨#[]⟩, .int .i64 0, .bool false, .string ⟨#[]⟩, .string ⟨#[]⟩, .bool false, .string ⟨#[]⟩], .int .i64 0, .int .i64 (k : Int)]) (Lib.bytesWorld w 5 (S s))) := hT
  have E0 : ∀ W, (Op.equalIn 10000 27 (.agg #[.int .u8 0, .string ⟨#[]⟩, .int .i64 0, .bool false, .string ⟨#[]⟩, .string ⟨#[]⟩, .bool false, .string ⟨#[]⟩]) (.agg #[.int .u8 0, .string ⟨#[]⟩, .int .i64 0, .bool false, .string ⟨#[]⟩, .string ⟨#[]⟩, .bool false, .string ⟨#[]⟩])).run Tryz.prog W = .ok true W := fun W => by
    have h := eq_ask zero zero W
    rw [decide_eq_true rfl] at h
    exact h
  have HT := Bx.mk hT2
  have HCB := Bx.mk hcb
  have q : ((k : Int) == (k : Int)) = true := by simp
  generalize Lib.bytesWorld w 5 (S s) = W1 at *
  generalize grownCap w s.length 0 5 = cc at *
  generalize s.length = n at *
  clear hT hT2 hcb hc he hs
  go_enter Tryz.func37, Tryz.ntmps37
  go_wp2_with fail
  refine HT.out.mono ?_
  rintro e w2 ⟨rfl, hb2⟩
  have HB2 := Bx.mk (HCB.out.trans ((hb2.alloc hb2.size (.cells #[.int .u8 0, .string ⟨#[]⟩, .int .i64 0, .bool false, .string ⟨#[]⟩, .string ⟨#[]⟩, .bool false, .string ⟨#[]⟩] 27)).mono HCB.out.size))
  clear hb2 hconv
  go_wp2_with fail
  exact bodyPost_ret (v := .bool true) (by simp [results, Tryz.results37, go_sem]) rfl ⟨rfl, HB2.out⟩
end Go.Proofs.YtghdaengkgiekaaGreatDoor.cn

/-
  Given for the seat's laws: the contract of the law's awake. No condition but those of the theorem.
-/
namespace Go.Proofs.YtghdaengkgiekaaGreatDoor.cn
open Go.RowKit mem hd
set_option linter.unusedVariables false

/-- a text that the law makes, taken -/
theorem ex_take {s : Str} {a : A} {n e : Nat} (hc : ctake s = (a, n, e)) (hs : s.length ≤ 3000) {w : World} (he : hw.Env w) : ∃ W1 c, (convert 9 29 (.string (S s))).run Tryz.prog w = .ok (.slice (some ⟨w.heap.size, 0, none⟩) s.length c) W1 ∧ Below w.heap.size w W1 ∧
    Calls Tryz.prog 17 #[.slice (some ⟨w.heap.size, 0, none⟩) s.length c] W1 (Gives (.tuple #[av a, .int .i64 (n : Int), .int .i64 (e : Int)]) W1) := by
  have hT := conv_take he s hs
  rw [hc] at hT
  have hconv := conv_any (S s) w
  rw [S_size] at hconv
  exact ⟨_, _, hconv, conv_below (S s) w, hT⟩
set_option maxRecDepth 100000 in
set_option maxHeartbeats 8000000 in
theorem awake_any {w : World} (he : hw.Env w) : Calls Tryz.prog 16 #[] w (Gives (.bool true) w) := by
  have j : ∀ a b : Str, S a ++ S b = S (a ++ b) := fun a b => S_append a b
  have TA : ∀ w : World, hw.Env w → ∃ W1 c, (convert 9 29 (.string ((⟨#[67, 79, 78, 78, 69, 67, 84, 32, 97, 58, 56, 48, 32, 72, 84, 84, 80, 47, 49, 46, 49, 13, 10]⟩ : ByteArray) ++ (⟨#[72, 111, 115, 116, 58, 32, 97, 13, 10, 13, 10]⟩ : ByteArray)))).run Tryz.prog w = .ok (.slice (some ⟨w.heap.size, 0, none⟩) (34 : Nat) c) W1 ∧ Below w.heap.size w W1 ∧
      Calls Tryz.prog 17 #[.slice (some ⟨w.heap.size, 0, none⟩) (34 : Nat) c] W1 (Gives (.tuple #[.agg #[.int .u8 3, .string ⟨#[97]⟩, .int .i64 80, .bool false, .string ⟨#[]⟩, .string ⟨#[]⟩, .bool false, .string ⟨#[]⟩], .int .i64 34, .int .i64 0]) W1) := fun w he => by
    have h := ex_take exA (by decide) he
    rw [← j] at h
    exact h
  have TB : ∀ w : World, hw.Env w → ∃ W1 c, (convert 9 29 (.string ((⟨#[67, 79, 78, 78, 69, 67, 84, 32, 97, 58, 56, 48, 32, 72, 84, 84, 80, 47, 49, 46, 49, 13, 10]⟩ : ByteArray) ++ (⟨#[72, 111, 115, 116, 58, 32, 97, 13, 10, 80, 114, 111, 120, 121, 45, 65, 117, 116, 104, 111, 114, 105, 122, 97, 116, 105, 111, 110, 58, 32, 98, 65, 83, 73, 67, 32, 100, 84, 112, 119, 79, 110, 69, 61, 13, 10, 72, 111, 112, 45, 84, 111, 107, 101, 110, 58, 32, 120, 44, 121, 13, 10, 13, 10]⟩ : ByteArray)))).run Tryz.prog w = .ok (.slice (some ⟨w.heap.size, 0, none⟩) (87 : Nat) c) W1 ∧ Below w.heap.size w W1 ∧
      Calls Tryz.prog 17 #[.slice (some ⟨w.heap.size, 0, none⟩) (87 : Nat) c] W1 (Gives (.tuple #[.agg #[.int .u8 3, .string ⟨#[97]⟩, .int .i64 80, .bool true, .string ⟨#[117]⟩, .string ⟨#[112, 58, 113]⟩, .bool true, .string ⟨#[120, 44, 121]⟩], .int .i64 87, .int .i64 0]) W1) := fun w he => by
    have h := ex_take exB (by decide) he
    rw [← j] at h
    exact h
  have EA : ∀ W, (Op.equalIn 10000 27 (.agg #[.int .u8 3, .string ⟨#[97]⟩, .int .i64 80, .bool false, .string ⟨#[]⟩, .string ⟨#[]⟩, .bool false, .string ⟨#[]⟩]) (.agg #[.int .u8 3, .string ⟨#[97]⟩, .int .i64 80, .bool false, .string ⟨#[]⟩, .string ⟨#[]⟩, .bool false, .string ⟨#[]⟩])).run Tryz.prog W = .ok true W := fun W => by
    have h := eq_ask aA aA W
    rw [decide_eq_true rfl] at h
    exact h
  have EB : ∀ W, (Op.equalIn 10000 27 (.agg #[.int .u8 3, .string ⟨#[97]⟩, .int .i64 80, .bool true, .string ⟨#[117]⟩, .string ⟨#[112, 58, 113]⟩, .bool true, .string ⟨#[120, 44, 121]⟩]) (.agg #[.int .u8 3, .string ⟨#[97]⟩, .int .i64 80, .bool true, .string ⟨#[117]⟩, .string ⟨#[112, 58, 113]⟩, .bool true, .string ⟨#[120, 44, 121]⟩])).run Tryz.prog W = .ok true W := fun W => by
    have h := eq_ask aB aB W
    rw [decide_eq_true rfl] at h
    exact h
  have TC : ∀ w : World, hw.Env w → Calls Tryz.prog 37 #[.int .i64 140, .string (⟨#[71, 69, 84, 32, 97, 58, 56, 48, 32, 72, 84, 84, 80, 47, 49, 46, 49, 13, 10, 72, 111, 115, 116, 58, 32, 97, 13, 10, 13, 10]⟩ : ByteArray)] w (Gives (.bool true) w) := fun w he => told_any he 140 eC (by decide) exC
  have TD : ∀ w : World, hw.Env w → Calls Tryz.prog 37 #[.int .i64 6, .string (⟨#[71, 69, 84, 32, 47, 32, 72, 84, 84, 80, 47, 49, 46, 48, 13, 10, 13, 10]⟩ : ByteArray)] w (Gives (.bool true) w) := fun w he => told_any he 6 eD (by decide) exD
  have TE : ∀ w : World, hw.Env w → Calls Tryz.prog 37 #[.int .i64 6, .string (⟨#[67, 79, 78, 78, 69, 67, 84, 32, 97, 32, 72, 84, 84, 80, 47, 49, 46, 49, 13, 10, 72, 111, 115, 116, 58, 32, 97, 13, 10, 13, 10]⟩ : ByteArray)] w (Gives (.bool true) w) := fun w he => told_any he 6 eE (by decide) exE
  have TF : ∀ w : World, hw.Env w → Calls Tryz.prog 37 #[.int .i64 6, .string ((⟨#[67, 79, 78, 78, 69, 67, 84, 32, 97, 58, 56, 48, 32, 72, 84, 84, 80, 47, 49, 46, 49, 13, 10]⟩ : ByteArray) ++ (⟨#[13, 10]⟩ : ByteArray))] w (Gives (.bool true) w) := fun w he => by
    have h := told_any he 6 (eLine ++ eF) (by decide) exF
    rw [← j] at h
    exact h
  have TG : ∀ w : World, hw.Env w → Calls Tryz.prog 37 #[.int .i64 6, .string ((⟨#[67, 79, 78, 78, 69, 67, 84, 32, 97, 58, 56, 48, 32, 72, 84, 84, 80, 47, 49, 46, 49, 13, 10]⟩ : ByteArray) ++ (⟨#[72, 111, 115, 116, 58, 32, 97, 13, 10, 104, 111, 115, 116, 58, 32, 97, 13, 10, 13, 10]⟩ : ByteArray))] w (Gives (.bool true) w) := fun w he => by
    have h := told_any he 6 (eLine ++ eG) (by decide) exG
    rw [← j] at h
    exact h
  obtain ⟨W1, k1, V1, b1, t1⟩ := TA w he
  have T1 := Bx.mk t1
  have HE := Bx.mk he
  have B1 := Bx.mk b1
  have HTB := Bx.mk TB; have HTC := Bx.mk TC; have HTD := Bx.mk TD; have HTE := Bx.mk TE; have HTF := Bx.mk TF; have HTG := Bx.mk TG
  clear t1 b1 TA TB TC TD TE TF TG he j
  go_enter Tryz.func16, Tryz.ntmps16
  go_wp2_with fail
  refine T1.out.mono ?_
  rintro e w2 ⟨rfl, hb2⟩
  have hb2a := hb2.alloc hb2.size (.cells #[.int .u8 3, .string ⟨#[97]⟩, .int .i64 80, .bool false, .string ⟨#[]⟩, .string ⟨#[]⟩, .bool false, .string ⟨#[]⟩] 27)
  have B2 := Bx.mk (B1.out.trans (hb2a.mono B1.out.size))
  have L2 := Bx.mk (Lies.new w2 27 #[.int .u8 3, .string ⟨#[97]⟩, .int .i64 80, .bool false, .string ⟨#[]⟩, .string ⟨#[]⟩, .bool false, .string ⟨#[]⟩])
  clear hb2 hb2a V1
  go_upto_region 3 with fail
  generalize w2.alloc (.cells #[.int .u8 3, .string ⟨#[97]⟩, .int .i64 80, .bool false, .string ⟨#[]⟩, .string ⟨#[]⟩, .bool false, .string ⟨#[]⟩] 27) = W2 at *
  generalize w2.heap.size = g2 at *
  obtain ⟨W3, k3, V3, b3, t3⟩ := HTB.out W2 (HE.out.below B2.out)
  have T3 := Bx.mk t3
  have B3 := Bx.mk (B2.out.trans (b3.mono B2.out.size))
  have L3 := Bx.mk (L2.out.below b3 L2.out.lt)
  clear t3 b3
  go_wp2_with fail
  refine T3.out.mono ?_
  rintro e w4 ⟨rfl, hb4⟩
  have hb4a := (hb4.alloc hb4.size (.cells #[.int .u8 3, .string ⟨#[97]⟩, .int .i64 80, .bool true, .string ⟨#[117]⟩, .string ⟨#[112, 58, 113]⟩, .bool true, .string ⟨#[120, 44, 121]⟩] 27)).alloc (by have := hb4.size; simp; omega) (.cells #[.int .u8 3, .string ⟨#[97]⟩, .int .i64 80] 25)
  have B5 := Bx.mk (B3.out.trans (hb4a.mono B3.out.size))
  have L5 := Bx.mk (L3.out.below hb4a L3.out.lt)
  have M5 := Bx.mk ((Lies.new w4 27 #[.int .u8 3, .string ⟨#[97]⟩, .int .i64 80, .bool true, .string ⟨#[117]⟩, .string ⟨#[112, 58, 113]⟩, .bool true, .string ⟨#[120, 44, 121]⟩]).alloc (.cells #[.int .u8 3, .string ⟨#[97]⟩, .int .i64 80] 25))
  have hn5 := Lies.new (w4.alloc (.cells #[.int .u8 3, .string ⟨#[97]⟩, .int .i64 80, .bool true, .string ⟨#[117]⟩, .string ⟨#[112, 58, 113]⟩, .bool true, .string ⟨#[120, 44, 121]⟩] 27)) 25 #[.int .u8 3, .string ⟨#[97]⟩, .int .i64 80]
  have hz5 : (w4.alloc (.cells #[.int .u8 3, .string ⟨#[97]⟩, .int .i64 80, .bool true, .string ⟨#[117]⟩, .string ⟨#[112, 58, 113]⟩, .bool true, .string ⟨#[120, 44, 121]⟩] 27)).heap.size = w4.heap.size + 1 := by simp
  rw [hz5] at hn5
  have N5 := Bx.mk hn5
  clear hb4 hb4a V3 hz5 hn5
  go_upto_region 5 with fail
  generalize (w4.alloc (.cells #[.int .u8 3, .string ⟨#[97]⟩, .int .i64 80, .bool true, .string ⟨#[117]⟩, .string ⟨#[112, 58, 113]⟩, .bool true, .string ⟨#[120, 44, 121]⟩] 27)).alloc (.cells #[.int .u8 3, .string ⟨#[97]⟩, .int .i64 80] 25) = W5 at *
  generalize w4.heap.size = g5 at *
  obtain ⟨r0, r1, r2, r3, r4, r5, r6, r7⟩ := eight L5.out
  obtain ⟨m0, m1, m2, m3, m4, m5, m6, m7⟩ := eight M5.out
  have n0 := N5.out.cell 0; have n1 := N5.out.cell 1; have n2 := N5.out.cell 2
  simp at n0 n1 n2
  go_wp2_with fail
  refine (HTC.out _ (HE.out.below B5.out)).mono ?_
  rintro e w6 ⟨rfl, hb6⟩
  have B6 := Bx.mk (B5.out.trans (hb6.mono B5.out.size))
  clear hb6 r0 r1 r2 r3 r4 r5 r6 r7 m0 m1 m2 m3 m4 m5 m6 m7 n0 n1 n2
  go_wp2_with fail
  refine (HTD.out _ (HE.out.below B6.out)).mono ?_
  rintro e w7 ⟨rfl, hb7⟩
  have B7 := Bx.mk (B6.out.trans (hb7.mono B6.out.size))
  clear hb7
  go_wp2_with fail
  refine (HTE.out _ (HE.out.below B7.out)).mono ?_
  rintro e w8 ⟨rfl, hb8⟩
  have B8 := Bx.mk (B7.out.trans (hb8.mono B7.out.size))
  clear hb8
  go_wp2_with fail
  refine (HTF.out _ (HE.out.below B8.out)).mono ?_
  rintro e w9 ⟨rfl, hb9⟩
  have B9 := Bx.mk (B8.out.trans (hb9.mono B8.out.size))
  clear hb9
  go_wp2_with fail
  refine (HTG.out _ (HE.out.below B9.out)).mono ?_
  rintro e w10 ⟨rfl, hb10⟩
  have B10 := Bx.mk (B9.out.trans (hb10.mono B9.out.size))
  clear hb10
  go_wp2_with fail
  exact bodyPost_ret (v := .bool true) (by simp [results, Tryz.results16, go_sem]) rfl ⟨rfl, B10.out⟩
end Go.Proofs.YtghdaengkgiekaaGreatDoor.cn
