/-
  Given for the seat's laws: the law RankLess answers true over whatever memory. No condition but those of the theorems.
-/
import Derived.Test.YtimlcjdpnhhjdaaRRuns
import Derived.Deep.RegionLaw
import Derived.BigRegion
namespace Go.Proofs.Ytimlcjdpnhhjdaa.rk
open Go.RowKit mem sp
set_option linter.unusedVariables false

theorem q_small (z : Int) {n : Nat} (h0 : 0 < n) : ∃ q : Nat, (IntKind.u64.wrap z).tmod (n : Int) = (q : Int) ∧ q < n := by
  have h : 0 ≤ IntKind.u64.wrap z := by rw [IntKind.wrap_u64]; omega
  have h1 := Int.tmod_eq_emod_of_nonneg (b := (n : Int)) h
  have h2 := Int.emod_nonneg (IntKind.u64.wrap z) (show (n : Int) ≠ 0 by omega)
  have h3 := Int.emod_lt_of_pos (IntKind.u64.wrap z) (show (0 : Int) < (n : Int) by omega)
  exact ⟨((IntKind.u64.wrap z).tmod (n : Int)).toNat, by omega, by omega⟩

theorem runs_take {w : World} {ok : Nat → Prop} {A : Option Addr} {l : List Rn} (h : RunsAt w ok A l) (q : Nat) : RunsAt w ok A (l.take q) := ⟨fun hp => by
  obtain ⟨g, off, e, ho, hc⟩ := h.ex (by simp at hp; omega)
  refine ⟨g, off, e, ho, fun j x hx => hc j x ?_⟩
  rw [List.getElem?_take] at hx
  split at hx
  · exact hx
  · cases hx⟩
theorem runs_drop {w : World} {ok : Nat → Prop} {g off : Nat} {l : List Rn} (h : RunsAt w ok (some ⟨g, off, none⟩) l) (q : Nat) : RunsAt w ok (some ⟨g, off + q * 2, none⟩) (l.drop q) := ⟨fun hp => by
  obtain ⟨g', off', e, ho, hc⟩ := h.ex (by simp at hp; omega)
  cases e
  refine ⟨g, off + q * 2, rfl, ho, fun j x hx => ?_⟩
  rw [List.getElem?_drop] at hx
  have := hc (q + j) x hx
  rw [show off + (q + j) * 2 = off + q * 2 + j * 2 by omega] at this
  exact this⟩
theorem runs_nil {w : World} {ok : Nat → Prop} {A : Option Addr} : RunsAt w ok A [] := ⟨fun h => absurd h (by simp)⟩
theorem nats_intv (o : List Nat) : nats o = intv (o.map fun x : Nat => (x : Int)) := by simp [nats, intv]
theorem step_append_g {P : Program} {w w' : World} {ops : Array Oper} {o : Oper} {a : Act} {Q : Exit → Act → World → Prop} {v u v' : Value} {K : Act → World → Prop} {E : Prop} {t : TypeId} (hg : o.guard = none) (s x : Operand)
    (hop : o.op = Op.call { callee := Callee.builtin Builtin.append, args := #[s, x], argTypes := #[t, t] }) (hty : o.type = t) (hs : a.eval s = v) (hx : a.eval x = u)
    (hrun : (Builtin.append_ #[t, t] t #[v, u]).run P w = .ok v' w') (h : K (a.put o.dst v') w') : if Region.wanted o (yielded ops a.tmps) = true then Oper.wp P o a w K Q else E :=
  step_append_eq hg s x t t hop hty hs hx hrun h

set_option maxHeartbeats 4000000 in
set_option maxRecDepth 100000 in
theorem less_any {w : World} {K A : Option Addr} {k ck n c : Nat} {key : Str} {l : List Rn} (hk : Spell w (fun g => g < w.heap.size) K k ck key) (hl : l.length = n) (hr : RunsAt w (fun g => g < w.heap.size) A l) (hc : n ≤ c) (hn : n < 8796093022208) (z : Int) :
    Calls Try.prog 6 #[.slice K k ck, .slice A n c, .int .i64 z] w (True_ w) := by
  have HAW := Bx.mk (awake_any w)
  unfold True_ at HAW
  have HG : Bx (∀ W, Below w.heap.size w W → Calls Try.prog 18 #[.slice K k ck, .slice A n c] W fun e w' => e = .returned (.bool (gr k (nms l))) ∧ Below W.heap.size W w') := ⟨fun W hW => lgreat_any hl (hr.below hW (fun _ h => h)) (fun g hg => Nat.lt_of_lt_of_le hg hW.size) hn⟩
  obtain ⟨gg, hgg⟩ : ∃ gg, gr k (nms l) = gg := ⟨_, rfl⟩
  rw [hgg] at HG
  cases gg with
  | true =>
    clear hk hl hr hgg
    go_enter Try.func6, Try.ntmps6
    go_wp2_with fail
    refine HAW.out.mono ?_
    rintro e w1 ⟨rfl, hb1⟩
    have HB1 := Bx.mk hb1
    clear hb1
    go_wp2_with fail
    refine (HG.out _ HB1.out).mono ?_
    rintro e w2 ⟨rfl, hb2⟩
    have HB2 := Bx.mk (HB1.out.trans (hb2.mono HB1.out.size))
    clear hb2
    go_wp2
    go_ret
    exact ⟨rfl, HB2.out⟩
  | false =>
    obtain ⟨hk100, hn16, hx40⟩ := gr_no hgg
    rw [nms_len, hl] at hn16
    by_cases h0 : n = 0
    · subst h0
      clear hk hl hr hgg hx40
      go_enter Try.func6, Try.ntmps6
      go_wp2_with fail
      refine HAW.out.mono ?_
      rintro e w1 ⟨rfl, hb1⟩
      have HB1 := Bx.mk hb1
      clear hb1
      go_wp2_with fail
      refine (HG.out _ HB1.out).mono ?_
      rintro e w2 ⟨rfl, hb2⟩
      have HB2 := Bx.mk (HB1.out.trans (hb2.mono HB1.out.size))
      clear hb2
      go_wp2
      go_ret
      exact ⟨rfl, HB2.out⟩
    · have hne : ((n : Int) == 0) = false := beq_eq_false_iff_ne.2 (by omega)
      obtain ⟨q, hq, hqn⟩ := q_small z (show 0 < n by omega)
      obtain ⟨g, off, rfl, hg, hcs⟩ := hr.ex (by omega)
      have HLO : Bx (∀ W, Below w.heap.size w W → Calls Try.prog 19 #[.slice K k ck, .slice (some ⟨g, off, none⟩) n c] W (OrdTo (SR key l) n W)) := ⟨fun W hW => lorder_any (hk.below hW (fun _ h => h)) (fun g hg => Nat.lt_of_lt_of_le hg hW.size) hl (hr.below hW (fun _ h => h)) (fun g hg => Nat.lt_of_lt_of_le hg hW.size) hn16 (fun x hx => by have := hx40 x hx; omega)⟩
      have HK : Bx (∀ W, Below w.heap.size w W → Spell W (fun g => g < w.heap.size) K k ck key) := ⟨fun W hW => hk.below hW (fun _ h => h)⟩
      have HR := Bx.mk hr
      have HL := Bx.mk hl
      have HX := Bx.mk hx40
      have hcap : (n : Int) ≤ (c : Int) := by omega
      have q0 : (0 : Int) ≤ (q : Int) := by omega
      have q1 : (q : Int) < (n : Int) := by omega
      clear hk hl hr hgg hx40 h0 hcs
      go_enter Try.func6, Try.ntmps6
      go_wp2_with fail
      refine HAW.out.mono ?_
      rintro e w1 ⟨rfl, hb1⟩
      have HB1 := Bx.mk hb1
      clear hb1
      go_wp2_with fail
      refine (HG.out _ HB1.out).mono ?_
      rintro e w2 ⟨rfl, hb2⟩
      have HB2 := Bx.mk (HB1.out.trans (hb2.mono HB1.out.size))
      clear hb2
      go_upto_region 6 with fail
      have hr1 : IntKind.i64.wrap ((q : Int) + 1) = (q : Int) + 1 := by rw [IntKind.wrap_i64]; omega
      have q2 : (0 : Int) ≤ (q : Int) + 1 := by omega
      have q3 : (q : Int) + 1 ≤ (n : Int) := by omega
      have q4 : (q : Int) ≤ (c : Int) := by omega
      have hrest : ∀ x ∈ nms (l.take q ++ l.drop (q + 1)), x.length ≤ 100000 := fun x hx => by
        have hx2 : x ∈ nms l := by
          unfold nms at hx ⊢
          rw [List.mem_map] at hx ⊢
          obtain ⟨y, hy, e⟩ := hx
          refine ⟨y, ?_, e⟩
          rcases List.mem_append.1 hy with h | h
          · exact List.mem_of_mem_take h
          · exact List.mem_of_mem_drop h
        have := HX.out x hx2
        omega
      have hlt : (l.take q ++ l.drop (q + 1)).length = n - 1 := by rw [List.length_append, List.length_take, List.length_drop, HL.out]; omega
      -- the rows
      have bz : Below w2.heap.size w2 (w2.alloc (.cells #[] 40)).drew := ((Below.refl _ _).alloc (Nat.le_refl _) _).drew
      have m0 := (MadeX.start w2).fresh ((Below.refl (w2.alloc (.cells #[] 40)).heap.size (w2.alloc (.cells #[] 40))).drew)
      have r0 := (HR.out.below HB2.out (fun _ h => h)).below bz (fun g hg => Nat.lt_of_lt_of_le hg HB2.out.size)
      obtain ⟨A1, c1, w3, ap1, m1, -⟩ := m0.app (cm := c) (runs_take r0 q) (show (l.take q).length = q by rw [List.length_take, HL.out]; omega) (n := 0) rfl (by omega)
      rw [Nat.zero_add] at ap1 m1
      rw [List.nil_append] at m1
      have r1 : RunsAt w3 (fun g => g < w.heap.size) (some ⟨g, off, none⟩) l := (HR.out.below HB2.out (fun _ h => h)).below m1.below (fun g hg => Nat.lt_of_lt_of_le hg HB2.out.size)
      obtain ⟨off2, hoff, r2⟩ : ∃ off2, (if c = q + 1 then some (⟨g, off, none⟩ : Addr) else some ⟨g, off + (q + 1) * 2, none⟩) = some ⟨g, off2, none⟩ ∧ RunsAt w3 (fun g => g < w.heap.size) (some ⟨g, off2, none⟩) (l.drop (q + 1)) := by
        by_cases hcq : c = q + 1
        · refine ⟨off, if_pos hcq, ?_⟩
          rw [List.drop_eq_nil_of_le (by rw [HL.out]; omega)]
          exact runs_nil
        · exact ⟨off + (q + 1) * 2, if_neg hcq, runs_drop r1 (q + 1)⟩
      obtain ⟨A2, c2, w4, ap2, m2, -⟩ := m1.app (cm := c - (q + 1)) r2 (show (l.drop (q + 1)).length = n - (q + 1) by rw [List.length_drop, HL.out]) (show (l.take q).length = q by rw [List.length_take, HL.out]; omega) (by omega)
      rw [show q + (n - (q + 1)) = n - 1 by omega] at ap2 m2
      have AP1 := Bx.mk ap1
      have AP2 := Bx.mk ap2
      have HB4 := Bx.mk (HB2.out.trans (m2.below.mono HB2.out.size))
      have rr := m2.runs hlt
      have HO1 := Bx.mk (lorder_any (k := k) (c := c2) (HK.out w4 HB4.out) (fun g hg => Nat.lt_of_lt_of_le hg HB4.out.size) hlt rr (fun g hg => hg.2) (show n - 1 ≤ 16 by omega) hrest)
      have HERA : Bx (∀ j, j < n - 1 → SR key (l.take q ++ l.drop (q + 1)) j = SR key l (skip q j)) := ⟨fun j hj => SR_erase (by rw [HL.out]; omega) (by rw [HL.out]; exact hqn)⟩
      clear hrest hlt bz m0 r0 ap1 m1 r1 r2 ap2 m2 rr HX HR
      go_region_law (first
        | (refine step_append_g rfl _ _ rfl rfl (by simp [Act.eval]) (by simp [Act.eval]) AP1.out ?_)
        | (refine step_append_g rfl _ _ rfl rfl (by simp [Act.eval]) (by simp [Act.eval]) AP2.out ?_))
      all_goals
        clear AP1 AP2 hoff
        go_wp2_with fail
        refine HO1.out.mono ?_
        rintro e w5 ⟨o1, g1, rfl, ho1, hl1, hg1, hb5⟩
        have HB5 := Bx.mk (HB4.out.trans (hb5.mono HB4.out.size))
        have HORD1 := Bx.mk ho1
        have HL1 := Bx.mk hl1
        clear ho1 hl1 hg1 hb5 HO1
        go_wp2_with fail
        refine (HLO.out _ HB5.out).mono ?_
        rintro e w6 ⟨o2, g2, rfl, ho2, hl2, hg2, hb6⟩
        have HB6 := Bx.mk (HB5.out.trans (hb6.mono HB5.out.size))
        have HL1' := Bx.mk (HL1.out.below hb6 HL1.out.lt)
        have hle : o1 = less o2 q := (HORD1.out.congr HERA.out).one (ho2.less hqn)
        have HW := Bx.mk (without_any (c := n) ho2.len (RowAt.of_lies (ok := fun x => x = g2) hl2 rfl (by simp)) (fun x e => by subst e; exact hl2.lt) (by omega) (fun x hx => by have := ho2.mem.1 hx; omega) q true)
        rw [wof_less, ← hle] at HW
        unfold WoTo at HW
        rw [HORD1.out.len] at HW
        clear ho2 hl2 hg2 hb6 hle
        go_wp2_with fail
        refine HW.out.mono ?_
        rintro e w7 ⟨A7, c7, rfl, hm7⟩
        have HB7 := Bx.mk (HB6.out.trans (hm7.below.mono HB6.out.size))
        have hl7 := HL1'.out.below hm7.below HL1'.out.lt
        have ra : RowAt w7 (fun x => x = g1) (some ⟨g1, 0, none⟩) (intv (o1.map fun x : Nat => (x : Int))) := RowAt.of_lies hl7 rfl (by simp [nats_intv])
        have rb := hm7.row (by rw [nats_len]; exact HORD1.out.len)
        rw [nats_intv] at rb
        have HS := Bx.mk (same_any (c := n - 1) (d := c7) (show (o1.map fun x : Nat => (x : Int)).length = n - 1 by rw [List.length_map]; exact HORD1.out.len) ra (fun x e => by subst e; exact hl7.lt) (show (o1.map fun x : Nat => (x : Int)).length = n - 1 by rw [List.length_map]; exact HORD1.out.len) rb (fun _ h => h) (by omega))
        clear hm7 hl7 ra rb HW
        go_wp2_with fail
        refine HS.out.mono ?_
        rintro e w8 ⟨rfl, hb8⟩
        have HB8 := Bx.mk (HB7.out.trans (hb8.mono HB7.out.size))
        clear hb8 HS
        go_wp2
        go_ret
        exact ⟨by simp, HB8.out⟩
theorem less_at {w : World} {K A : Option Addr} {k ck c : Nat} {bs : List Int} {l : List Rn} (hk : Src w (fun g => g < w.heap.size) K k ck bs) (hr : RunsAt w (fun g => g < w.heap.size) A l) (hc : l.length ≤ c) (hn : l.length < 8796093022208) (z : Int) :
    Calls Try.prog 6 #[.slice K k ck, .slice A l.length c, .int .i64 z] w (True_ w) := by
  obtain ⟨key, rfl⟩ := ints_of hk.rng
  exact less_any hk rfl hr hc hn z
end Go.Proofs.Ytimlcjdpnhhjdaa.rk
