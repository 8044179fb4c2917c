/-
  Given for the seat's laws: HeadMore at any bytes. No condition but those of the theorem.
-/
import Derived.Test.YtkclhfoeimbikaaDoorKLOnce
import Derived.Test.YtkclhfoeimbikaaDoorKPure2
import Derived.Deep.RegionWith
namespace Go.Proofs.YtkclhfoeimbikaaDoor.hd
open Go.RowKit mem
set_option linter.unusedVariables false

theorem Std.take_any {w wr : World} {A : Option Addr} {n c : Nat} {b : Str} (h : Std w wr A n c b) : Calls Tryd.prog 9 #[.slice A n c] wr (TakeTo (hd.take b) wr) :=
  take_any0 h.sp (fun g hg => Nat.lt_of_lt_of_le hg h.be.size)
def endsv : Array Value := #[.string ⟨#[13, 10, 13, 10]⟩, .string ⟨#[10, 13, 10]⟩, .string ⟨#[10]⟩, .string ⟨#[13, 10]⟩, .string ⟨#[65, 13, 10, 13, 10]⟩, .string ⟨#[58, 13, 10, 13, 10]⟩, .string ⟨#[65, 58, 13, 10, 13, 10]⟩]
theorem endsv_at {i : Nat} {s : Str} (h : ends[i]? = some s) : endsv[i]? = some (.string (S s)) := by
  have hi : i < 7 := (List.getElem?_eq_some_iff.1 h).1
  have : i = 0 ∨ i = 1 ∨ i = 2 ∨ i = 3 ∨ i = 4 ∨ i = 5 ∨ i = 6 := by omega
  rcases this with rfl | rfl | rfl | rfl | rfl | rfl | rfl <;> (simp [ends] at h; subst h; rfl)
theorem ends_len {i : Nat} {s : Str} (h : ends[i]? = some s) : s.length ≤ 6 := by
  have hi : i < 7 := (List.getElem?_eq_some_iff.1 h).1
  have : i = 0 ∨ i = 1 ∨ i = 2 ∨ i = 3 ∨ i = 4 ∨ i = 5 ∨ i = 6 := by omega
  rcases this with rfl | rfl | rfl | rfl | rfl | rfl | rfl <;> (simp [ends] at h; subst h; decide)
/-- what is asked at one end -/
theorem more_app {V : World} {B : Nat} {A : Option Addr} {n c : Nat} {b : Str} {Ae : Option Addr} {ce : Nat} (h : RowG V B (.slice Ae (0 : Nat) ce) []) (hB : B ≤ V.heap.size) {ok : Nat → Prop} (hs : Spell V ok A n c b) (hn : n ≤ 600) :
    ∃ A' c' V', (Builtin.append_ #[22, 22] 22 #[.slice Ae 0 ce, .slice A n c]).run Tryd.prog V = .ok (.slice A' n c') V' ∧ RowG V' B (.slice A' n c') b ∧ Below B V V' := by
  obtain ⟨A', c', V', hr, ho, hk⟩ := h.appB rfl hB hs (by omega)
  rw [Nat.zero_add] at hr ho
  exact ⟨A', c', V', hr, ho, h.kp_below hB hk⟩
theorem mk1 {wr V : World} {A : Option Addr} {n c : Nat} {b : Str} {Ae : Option Addr} {ce : Nat} (hb : Below wr.heap.size wr V) (h : RowG V wr.heap.size (.slice Ae (0 : Nat) ce) []) (hs : Spell wr (fun g => g < wr.heap.size) A n c b) (hn : n ≤ 600) :
    ∃ A' c' V', (Builtin.append_ #[22, 22] 22 #[.slice Ae 0 ce, .slice A n c]).run Tryd.prog V = .ok (.slice A' n c') V' ∧ RowG V' wr.heap.size (.slice A' n c') b ∧ Below wr.heap.size wr V' ∧ Kp (fun k => (Value.slice Ae (0 : Nat) ce).ownBlock = some k) V V' := by
  obtain ⟨A', c', V', hr, ho, hk⟩ := h.appB (ok := fun g => g < wr.heap.size) rfl hb.size (Src.below hs hb (fun g hg => hg)) (by omega)
  rw [Nat.zero_add] at hr ho
  exact ⟨A', c', V', hr, ho, hb.trans (h.kp_below hb.size hk), hk⟩
theorem mk2 {wr V : World} {A : Option Addr} {n c : Nat} {b s : Str} (hb : Below wr.heap.size wr V) (h : RowG V wr.heap.size (.slice A n c) b) (hn : b.length = n) (hl : n + s.length ≤ 1000000) {k : Nat} (hk : s.length = k) :
    ∃ A' c' V', (Builtin.append_ #[22, 9] 22 #[.slice A n c, .string (S s)]).run Tryd.prog V = .ok (.slice A' (n + k : Nat) c') V' ∧ RowG V' wr.heap.size (.slice A' (n + k : Nat) c') (b ++ s) ∧ Below wr.heap.size wr V' ∧ Kp (fun k => (Value.slice A n c).ownBlock = some k) V V' := by
  subst hk
  obtain ⟨A', c', V', hr, ho, hk⟩ := h.appS hn hb.size s hl
  exact ⟨A', c', V', hr, ho, hb.trans (h.kp_below hb.size hk), hk⟩
theorem RowG.keepH {V V' : World} {B h : Nat} {v : Value} {l : Str} {cs : Array Value} (hr : RowG V B v l) (hk : Kp (fun k => v.ownBlock = some k) V V') (hl : Lies V h 25 cs) : Lies V' h 25 cs :=
  hl.of_same (hk.block h hl.lt (hr.ne hl (by decide)))
def zh : Obj := .cells #[.string ⟨#[]⟩, .slice none 0 0] 25
set_option maxHeartbeats 4000000 in
set_option maxRecDepth 100000 in
theorem more_walk {w : World} {A : Option Addr} {n c : Nat} {bs : List Int} (hs : Src w (fun g => g < w.heap.size) A n c bs) : Calls Tryd.prog 7 #[.slice A n c] w (True_ w) := by
  obtain ⟨b, rfl⟩ := ints_of hs.rng
  have HAW := Bx.mk (awake_any w)
  have HBL := Bx.mk (spell_len hs)
  obtain ⟨l1, fs1, n1, e1, hx⟩ : ∃ l fs n e, take b = (l, fs, n, e) := ⟨_, _, _, _, rfl⟩
  have HX := Bx.mk hx
  have HS := Bx.mk hs
  have hmx := hs.max
  have hcap := hs.cap
  clear hs hx hmx hcap
  go_enter Tryd.func7, Tryd.ntmps7
  go_wp2_with fail
  refine HAW.out.mono ?_
  rintro e w1 ⟨rfl, hb1⟩
  have HST : Bx (Std w w1 A n c b) := ⟨⟨hb1, HS.out.below hb1 (fun g hg => hg)⟩⟩
  clear hb1 HAW HS
  go_wp2_with fail
  refine HST.out.take_any.mono ?_
  intro en w2 ht
  obtain ⟨A1, c1, rfl, hf1, hb2⟩ := take_r HX.out ht
  have hb2a := hb2.alloc hb2.size (.cells #[.string (S l1), .slice A1 fs1.length c1] 25)
  have HST2 := Bx.mk (HST.out.next hb2a)
  clear ht hf1 hb2 hb2a HST
  go_upto_region 4 with fail
  generalize w2.alloc (.cells #[.string (S l1), .slice A1 fs1.length c1] 25) = W2 at *
  generalize w2.heap.size = g1 at *
  by_cases hyes : n ≤ 500 ∧ e1 = 5
  · obtain ⟨hn5, rfl⟩ := hyes
    have q1 : ¬ (600 : Int) < (n : Int) := by omega
    have q2 : ¬ (500 : Int) < (n : Int) := by omega
    have hx5 : take b = ([], [], 0, 5) := by
      have h := HX.out
      rcases go_kinds start 0 b with ⟨a, _⟩ | ⟨a, _⟩ | a | a
      · rw [show go start 0 b = _ from h] at a; simp at a
      · exact a
      all_goals
        rw [show go start 0 b = _ from h] at a
        simp at a
    have HX5 := Bx.mk hx5
    have HE := Bx.mk (more_ends hx5 (by rw [HBL.out]; exact hn5))
    clear hx5 HX
    go_wp2_with fail
    have L := Lies.new W2 9 endsv
    have HST3 := Bx.mk (HST2.out.next ((Below.refl W2.heap.size W2).alloc (Nat.le_refl _) (.cells endsv 9)))
    unfold endsv at L HST3
    have HL := Bx.mk L
    clear L HST2
    have HW : Bx (Below w.heap.size w (W2.alloc (.cells #[.string ⟨#[13, 10, 13, 10]⟩, .string ⟨#[10, 13, 10]⟩, .string ⟨#[10]⟩, .string ⟨#[13, 10]⟩, .string ⟨#[65, 13, 10, 13, 10]⟩, .string ⟨#[58, 13, 10, 13, 10]⟩, .string ⟨#[65, 58, 13, 10, 13, 10]⟩] 9))) := ⟨HST3.out.be⟩
    generalize W2.alloc (.cells #[.string ⟨#[13, 10, 13, 10]⟩, .string ⟨#[10, 13, 10]⟩, .string ⟨#[10]⟩, .string ⟨#[13, 10]⟩, .string ⟨#[65, 13, 10, 13, 10]⟩, .string ⟨#[58, 13, 10, 13, 10]⟩, .string ⟨#[65, 58, 13, 10, 13, 10]⟩] 9) = W3 at *
    generalize W2.heap.size = ge at *
    clear HW
    go_loopw [7] (fun s7 wr => ∃ i : Nat, i ≤ 7 ∧ s7 = .int .i64 (i : Int) ∧ Bx (Std w wr A n c b) ∧ Bx (Lies wr ge 9 endsv) ∧ Bx (∀ j s, j < i → ends[j]? = some s → (take (b ++ s)).2.2.2 ≠ 0)) (fun s7 _ => 7 - (intOf s7).toNat)
    case atStart => exact ⟨0, by omega, rfl, HST3, HL, ⟨fun j s hj => by omega⟩⟩
    case round =>
      clear HST3 HL
      obtain ⟨i, hi, rfl, HR, HLs, HNo⟩ := hrel
      by_cases hlt : i < 7
      · obtain ⟨s, hs⟩ : ∃ s, ends[i]? = some s := ⟨_, List.getElem?_eq_getElem hlt⟩
        have hsl := ends_len hs
        obtain ⟨k, hk⟩ : ∃ k, s.length = k := ⟨_, rfl⟩
        obtain ⟨l2, fs2, n2, e2, hy⟩ : ∃ l fs n e, take (b ++ s) = (l, fs, n, e) := ⟨_, _, _, _, rfl⟩
        have cS : wr.cell? ⟨ge, i, none⟩ = some (.string (S s)) := by rw [HLs.out.cell]; exact endsv_at hs
        have hge := HLs.out.lt
        have HSP := Bx.mk (HR.out.sp.weak (ok' := fun g => g < wr.heap.size) (fun g hg => Nat.lt_of_lt_of_le hg HR.out.be.size))
        have HY := Bx.mk hy
        have HKL := Bx.mk hk
        have i0 : (0 : Int) ≤ (i : Int) := by omega
        have i1 : (i : Int) < 7 := by omega
        have hn6 : n ≤ 600 := by omega
        have hk6 : n + s.length ≤ 1000000 := by omega
        have r0 := Below.refl wr.heap.size wr
        have ba : Below wr.heap.size wr ((wr.alloc (.cells #[.string ⟨#[]⟩, .slice none 0 0] 25)).drew) := (r0.alloc (Nat.le_refl _) _).drew
        have bb : Below wr.heap.size wr ((wr.alloc (.cells #[] 5)).drew) := (r0.alloc (Nat.le_refl _) _).drew
        have ga : RowG (((wr.alloc (.cells #[.string ⟨#[]⟩, .slice none 0 0] 25)).drew).alloc (.cells #[] 5)) wr.heap.size (.slice (some ⟨((wr.alloc (.cells #[.string ⟨#[]⟩, .slice none 0 0] 25)).drew).heap.size, 0, none⟩) (0 : Nat) 0) [] := (rowG_lit _).weak (by simp)
        have gb : RowG ((wr.alloc (.cells #[] 5)).drew) wr.heap.size (.slice (some ⟨wr.heap.size, 0, none⟩) (0 : Nat) 0) [] := rowG_lit wr
        have gb2 : RowG (((wr.alloc (.cells #[] 5)).drew).alloc (.cells #[.string ⟨#[]⟩, .slice none 0 0] 25)) wr.heap.size (.slice (some ⟨wr.heap.size, 0, none⟩) (0 : Nat) 0) [] := gb.below ((Below.refl _ _).alloc (Nat.le_refl _) _)
        obtain ⟨A0, d0, a2, xa1, oa1, bla1, ka1⟩ := mk1 (ba.alloc (by simp) _) ga HSP.out hn6
        obtain ⟨A1', d1, b2, xb1, ob1, blb1, kb1⟩ := mk1 (bb.alloc (by simp) _) gb2 HSP.out hn6
        obtain ⟨A2, d2, c1', xc1, oc1, blc1, kc1⟩ := mk1 bb gb HSP.out hn6
        obtain ⟨A3, d3, a3, xa2, oa2, bla2, ka2⟩ := mk2 (s := s) bla1 oa1 HBL.out hk6 hk
        obtain ⟨A4, d4, b3, xb2, ob2, blb2, kb2⟩ := mk2 (s := s) blb1 ob1 HBL.out hk6 hk
        obtain ⟨A5, d5, c3, xc2, oc2, blc2, kc2⟩ := mk2 (s := s) (blc1.alloc blc1.size (.cells #[.string ⟨#[]⟩, .slice none 0 0] 25)) (oc1.below ((Below.refl _ _).alloc (Nat.le_refl _) _)) HBL.out hk6 hk
        obtain ⟨A6, d6, e1', xd2, od2, bld2, kd2⟩ := mk2 (s := s) blc1 oc1 HBL.out hk6 hk
        have TA := Bx.mk (take_any0 (oa2.spell (by rw [List.length_append, HBL.out, hk])) (fun g hg => hg))
        have TB := Bx.mk (take_any0 (ob2.spell (by rw [List.length_append, HBL.out, hk])) (fun g hg => hg))
        have TC := Bx.mk (take_any0 (oc2.spell (by rw [List.length_append, HBL.out, hk])) (fun g hg => hg))
        have TE := Bx.mk (take_any0 (od2.spell (by rw [List.length_append, HBL.out, hk])) (fun g hg => hg))
        have TD := Bx.mk (take_any0 ((od2.below ((Below.refl _ _).alloc (Nat.le_refl _) (.cells #[.string ⟨#[]⟩, .slice none 0 0] 25))).spell (by rw [List.length_append, HBL.out, hk])) (fun g hg => hg))
        have HC : Bx (∀ W', Below wr.heap.size wr W' → W'.cell? ⟨ge, i, none⟩ = some (.string (S s))) := ⟨fun W' hb => cell_kept cS hb⟩
        have HLA := Bx.mk (oa1.keepH ka2 (ga.keepH ka1 (((Lies.new wr 25 #[.string ⟨#[]⟩, .slice none 0 0]).drew).alloc (.cells #[] 5))))
        have HLB := Bx.mk (ob1.keepH kb2 (gb2.keepH kb1 (Lies.new ((wr.alloc (.cells #[] 5)).drew) 25 #[.string ⟨#[]⟩, .slice none 0 0])))
        have HLC := Bx.mk ((oc1.below ((Below.refl _ _).alloc (Nat.le_refl _) (.cells #[.string ⟨#[]⟩, .slice none 0 0] 25))).keepH kc2 (Lies.new c1' 25 #[.string ⟨#[]⟩, .slice none 0 0]))
        have HLD := Bx.mk (Lies.new e1' 25 #[.string ⟨#[]⟩, .slice none 0 0])
        have bld3 : Below wr.heap.size wr (e1'.alloc (.cells #[.string ⟨#[]⟩, .slice none 0 0] 25)) := bld2.alloc bld2.size _
        have zb : ((wr.alloc (.cells #[] 5)).drew).heap.size = wr.heap.size + 1 := by simp
        rw [zb] at HLB
        clear oa1 ob1 oc1 oa2 ob2 oc2 od2 ga gb gb2 ka1 kb1 kc1 ka2 kb2 kc2 kd2 zb
        go_upto_region 10 with fail
        go_cut [9, 10] (fun s9 s10 wx => s9 = .int .i64 (n2 : Int) ∧ s10 = .int .i64 (e2 : Int) ∧ Bx (Below wr.heap.size wr wx))
        case first =>
          go_region_held3 (fun W' => W'.cell? ⟨ge, i, none⟩ = some (.string (S s)))
            (exact HC.out _ (by (repeat (first | with_reducible assumption | refine Below.setCell ?_ (by first | exact Nat.le_refl _ | exact bld2.size | exact blc1.size | exact Nat.le_add_right _ 1) _ | refine Below.alloc ?_ (by first | exact bz.size | exact bld2.size | exact blc1.size | exact Nat.le_refl _ | (simp; omega) | simp) _ | refine Below.drew ?_))))
            (first
              | (refine step_append_eq rfl _ _ 22 22 rfl rfl (by simp [Act.eval]) (by simp [Act.eval]) xc1 ?_)
              | (refine step_append_eq rfl _ _ 22 22 rfl rfl (by simp [Act.eval]) (by simp [Act.eval]) xa1 ?_)
              | (refine step_append_eq rfl _ _ 22 22 rfl rfl (by simp [Act.eval]) (by simp [Act.eval]) xb1 ?_)
              | (refine step_append_eq rfl _ _ 22 9 rfl rfl (by simp [Act.eval]) (by simp [Act.eval]) xd2 ?_)
              | (refine step_append_eq rfl _ _ 22 9 rfl rfl (by simp [Act.eval]) (by simp [Act.eval]) xc2 ?_)
              | (refine step_append_eq rfl _ _ 22 9 rfl rfl (by simp [Act.eval]) (by simp [Act.eval]) xa2 ?_)
              | (refine step_append_eq rfl _ _ 22 9 rfl rfl (by simp [Act.eval]) (by simp [Act.eval]) xb2 ?_)
              | (go_at_call 9; with_reducible refine TE.out.mono ?_; intro en wz ht; obtain ⟨Az, cz, rfl, _, bz0⟩ := take_r HY.out ht; have bz := bld2.trans (bz0.mono bld2.size); clear ht bz0)
              | (go_at_call 9; with_reducible refine TA.out.mono ?_; intro en wz ht; obtain ⟨Az, cz, rfl, _, bz0⟩ := take_r HY.out ht; have bz := bla2.trans (bz0.mono bla2.size); have LZ := HLA.out.below bz0 HLA.out.lt; have l0 := LZ.cell 0; have l1 := LZ.cell 1; have f0 := LZ.frozen 0; have f1 := LZ.frozen 1; simp at l0 l1; clear LZ; clear ht bz0)
              | (go_at_call 9; with_reducible refine TB.out.mono ?_; intro en wz ht; obtain ⟨Az, cz, rfl, _, bz0⟩ := take_r HY.out ht; have bz := blb2.trans (bz0.mono blb2.size); have LZ := HLB.out.below bz0 HLB.out.lt; have l0 := LZ.cell 0; have l1 := LZ.cell 1; have f0 := LZ.frozen 0; have f1 := LZ.frozen 1; simp at l0 l1; clear LZ; clear ht bz0)
              | (go_at_call 9; with_reducible refine TC.out.mono ?_; intro en wz ht; obtain ⟨Az, cz, rfl, _, bz0⟩ := take_r HY.out ht; have bz := blc2.trans (bz0.mono blc2.size); have LZ := HLC.out.below bz0 HLC.out.lt; have l0 := LZ.cell 0; have l1 := LZ.cell 1; have f0 := LZ.frozen 0; have f1 := LZ.frozen 1; simp at l0 l1; clear LZ; clear ht bz0)
              | (go_at_call 9; with_reducible refine TD.out.mono ?_; intro en wz ht; obtain ⟨Az, cz, rfl, _, bz0⟩ := take_r HY.out ht; have bz := bld3.trans (bz0.mono bld3.size); have LZ := HLD.out.below bz0 HLD.out.lt; have l0 := LZ.cell 0; have l1 := LZ.cell 1; have f0 := LZ.frozen 0; have f1 := LZ.frozen 1; simp at l0 l1; clear LZ; clear ht bz0))
          all_goals
            go_wp2_with fail
            go_meet
            exact ⟨rfl, rfl, ⟨by (repeat (first | with_reducible assumption | refine Below.setCell ?_ (by first | exact Nat.le_refl _ | exact bld2.size | exact blc1.size | exact Nat.le_add_right _ 1) _ | refine Below.alloc ?_ (by first | exact bz.size | exact bld2.size | exact blc1.size | exact Nat.le_refl _ | (simp; omega) | simp) _ | refine Below.drew ?_))⟩⟩
        case rest =>
          obtain ⟨rfl, rfl, HBX⟩ := hcut
          have cS2 := HC.out _ HBX.out
          have HR2 := Bx.mk (HR.out.next HBX.out)
          have HL2 := Bx.mk (HLs.out.below HBX.out HLs.out.lt)
          clear TA TB TC TD TE HLA HLB HLC HLD HC xa1 xb1 xc1 xa2 xb2 xc2 xd2 bla1 blb1 blc1 bla2 blb2 blc2 bld2 bld3 ba bb r0 cS HR HSP HBX
          by_cases h0 : e2 = 0
          · subst h0
            have q3 := take_longer HX5.out (m := s) (by rw [HY.out])
            have q4 := take_n_le (b ++ s)
            rw [HY.out] at q3 q4
            rw [List.length_append, HBL.out, HKL.out] at q4
            rw [HBL.out] at q3
            have q5 : (n : Int) < (n2 : Int) := by have : n < n2 := q3; omega
            have q6 : (n2 : Int) ≤ (n : Int) + (k : Int) := by have : n2 ≤ n + k := q4; omega
            have q7 : IntKind.i64.wrap ((n : Int) + (k : Int)) = (n : Int) + (k : Int) := IntWalk.i64_in _ (by omega)
            have q8 := S_size s
            rw [HKL.out] at q8
            clear q3 q4 hs hsl hk hy hk6 HNo
            go_wp2_with fail
            exact bodyPost_ret (v := .bool true) (by simp [results, Tryd.results7, go_sem]) rfl ⟨rfl, HR2.out.be⟩
          · have HN2 : Bx (∀ j s, j < i + 1 → ends[j]? = some s → (take (b ++ s)).2.2.2 ≠ 0) := ⟨fun j s' hj hs' => by
              rcases (show j < i ∨ j = i by omega) with h1 | h1
              · exact HNo.out j s' h1 hs'
              · subst h1
                rw [hs] at hs'
                obtain rfl := Option.some.inj hs'
                rw [HY.out]
                exact h0⟩
            have q0 : ((e2 : Int) == 0) = false := by rw [beq_eq_false_iff_ne]; omega
            clear h0 hs hsl hk hy hk6 HNo cS2
            go_wp2_with fail
            go_roundw
            case rel => exact ⟨i + 1, by omega, by go_num, HR2, HL2, HN2⟩
            case measure => simp [intOf]; omega
      · obtain ⟨j, s, hj, h0⟩ := HE.out
        exact absurd h0 (HNo.out j s (by have : j < 7 := (List.getElem?_eq_some_iff.1 hj).1; omega) hj)
  · rcases (show 600 < n ∨ (¬ 600 < n ∧ e1 ≠ 5) ∨ (¬ 600 < n ∧ e1 = 5 ∧ 500 < n) by omega) with h | ⟨h, h2⟩ | ⟨h, h2, h3⟩
    · have q1 : (600 : Int) < (n : Int) := by omega
      clear hyes h
      go_wp2_with fail
      exact bodyPost_ret (v := .bool true) (by simp [results, Tryd.results7, go_sem]) rfl ⟨rfl, HST2.out.be⟩
    · have q1 : ¬ (600 : Int) < (n : Int) := by omega
      have q2 : ((e1 : Int) != 5) = true := by simp; omega
      clear hyes h h2
      go_wp2_with fail
      exact bodyPost_ret (v := .bool true) (by simp [results, Tryd.results7, go_sem]) rfl ⟨rfl, HST2.out.be⟩
    · subst h2
      have q1 : ¬ (600 : Int) < (n : Int) := by omega
      have q2 : (500 : Int) < (n : Int) := by omega
      clear hyes h h3
      go_wp2_with fail
      exact bodyPost_ret (v := .bool true) (by simp [results, Tryd.results7, go_sem]) rfl ⟨rfl, HST2.out.be⟩
end Go.Proofs.YtkclhfoeimbikaaDoor.hd
