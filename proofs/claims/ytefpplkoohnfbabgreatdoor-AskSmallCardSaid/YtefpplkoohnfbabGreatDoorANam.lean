/-
  Given for the seat's laws: the contract of the request's method that reads a name. No condition but those of the theorem.
-/
import Derived.Test.YtefpplkoohnfbabGreatDoorARead
import Derived.Deep.RegionHeld3
namespace Go.Proofs.YtefpplkoohnfbabGreatDoor.ak
open Go.RowKit mem hostp hw own
set_option linter.unusedVariables false

def kd : Option H → Nat
  | some h => h.kind
  | none => 0
def er : Option H → Int
  | some _ => 0
  | none => 40
theorem hpv_eq (o : Option H) : HPv o = .tuple #[hv (kd o : Int) (S (txt o)), .int .i64 (er o)] := by cases o <;> rfl
theorem repeat_any (k : Nat) (hk : k ≤ 1000) (w : World) : Calls Tryz.prog 24 #[.string ⟨#[97]⟩, .int .i64 (k : Int)] w (Gives (.string (S (List.replicate k 97))) w) := by
  refine (Tryz.strings_Repeat ⟨#[97]⟩ k w (by omega) (by show 1 * k ≤ _; omega)).mono ?_
  rintro e w' ⟨rfl, hb⟩
  refine ⟨?_, hb⟩
  have e : Lib.repeatL (ByteArray.mk #[97]).data.toList k = List.replicate k 97 := by
    have := Lib.repeatL_replicate 97 1 k
    simpa using this
  rw [e]
  rfl
theorem parse_as (s : Str) (hs : s.length ≤ 1000) (w : World) (he : Env w) : Calls Tryz.prog 23 #[.string (S s)] w (Gives (.tuple #[hv (kd (parse s) : Int) (S (txt (parse s))), .int .i64 (er (parse s))]) w) := by
  have h := parse_any (S s) (by rw [S_size]; omega) w he
  rw [S_list, hpv_eq] at h
  exact h
theorem bcell {w w' : World} {p : Addr} {v : Value} (h : w.cell? p = some v) (hb : Below w.heap.size w w') : w'.cell? p = some v := (hb.cell (World.block_lt_of_cell? _ _ h)).trans h
theorem add_str (a b : Str) (ha : a.length ≤ 1000) (hb : b.length ≤ 1000) (V : World) : (Op.stringOp .add (S a) (S b)).run Tryz.prog V = .ok (.string (S (a ++ b))) V := by
  rw [run_string_add V _ _ (by rw [S_size]; omega) (by rw [S_size]; omega), S_append]
theorem step_bb {W X Y : World} (hb : Below W.heap.size W X) (h : Below X.heap.size X Y) : Below W.heap.size W Y := hb.trans (h.mono hb.size)
theorem lies_new {X Y : World} {t : TypeId} {cs : Array Value} (h : Below (X.alloc (.cells cs t)).heap.size (X.alloc (.cells cs t)) Y) : Lies Y X.heap.size t cs := (Lies.new X t cs).below h (by simp)
theorem lies_newd {X Y : World} {t : TypeId} {cs : Array Value} (h : Below ((X.alloc (.cells cs t)).drew).heap.size (X.alloc (.cells cs t)).drew Y) : Lies Y X.heap.size t cs := ((Lies.new X t cs).drew).below h (by simp)
section
variable {W : World} {B g : Nat} {r : R} {rest : List Value}
set_option maxHeartbeats 4000000 in
set_option maxRecDepth 100000 in
theorem name_any (h : Rd W B g 44 r rest) (he : Env W) {n th k : Nat} (hn : n ≤ 300) (hth : th = min n r.l.length) (hk : k = n - r.l.length) :
    Calls Tryz.prog 18 #[.pointer (some ⟨g, 0, none⟩), .int .i64 (n : Int)] W (RdTo (.string (S (r.name n).1)) B g 44 (r.name n).2 rest W) := by
  have hmix : Tryz.prog.follows .mixedOrders = true := by kernel_rfl
  obtain ⟨A, c, hl, hs, c0, c1, c2, f0, f1, f2⟩ := h.cells
  have hthl : th ≤ r.l.length := by omega
  have hkk : n - th = k := by omega
  have ht := Src.takeN hs th hthl
  rw [ints_take] at ht
  have hcv := spell_str ht
  have htc : th ≤ c := by have := hs.cap; omega
  have hpad : r.l.take th ++ List.replicate k 97 = pad r.l n := by
    unfold pad
    rw [hk, hth]
    congr 1
    by_cases hx : n ≤ r.l.length
    · rw [Nat.min_eq_left hx]
    · rw [Nat.min_eq_right (by omega), List.take_length, List.take_of_length_le (by omega)]
  have hplen := pad_len r.l n
  have hadd := add_str (r.l.take th) (List.replicate k 97) (by simp; omega) (by simp; omega)
  rw [hpad] at hadd
  have HADD := Bx.mk hadd
  have HR := Bx.mk (repeat_any k (by omega))
  have HP := Bx.mk (fun V hV => parse_as (pad r.l n) (by omega) V hV)
  have HE := Bx.mk he
  have HH := Bx.mk h
  have HCV : Bx (∀ V, Below W.heap.size W V → V.cell? ⟨g, 0, none⟩ = some (.slice A r.l.length c) ∧ (convert 28 9 (.slice A th c)).run Tryz.prog V = .ok (.string (S (r.l.take th))) V) :=
    ⟨fun V hV => ⟨bcell c0 hV, spell_str (ht.below (hV.mono (Nat.le_trans h.ge (Nat.le_of_lt hl.lt))) (fun g hg => hg))⟩⟩
  unfold R.name
  dsimp only
  obtain ⟨r2, hr2⟩ : ∃ r2, r2 = (if is3 (parse (pad r.l n)) = true then r else r.fail 6) := ⟨_, rfl⟩
  rw [← hr2]
  have HR2 := Bx.mk hr2
  clear hr2
  have htc0 : (0 : Int) ≤ (th : Int) := by omega
  have htc1 : (th : Int) ≤ (c : Int) := by omega
  have hwr : IntKind.i64.wrap (k : Int) = (k : Int) := IntWalk.i64_in _ (by omega)
  have hmin : min (n : Int) ((r.l.length : Nat) : Int) = (th : Int) := by omega
  have hsub : (n : Int) - (th : Int) = (k : Int) := by omega
  generalize parse (pad r.l n) = o at *
  generalize S (r.l.take th) = sA at *
  generalize S (List.replicate k 97) = sR at *
  generalize S (pad r.l n) = sP at *
  generalize hm : r.l.length = m at *
  clear he h hl hs c1 c2 f0 f1 f2 hpad hplen ht hcv hadd hk hkk
  go_enter Tryz.func18, Tryz.ntmps18
  go_upto_region 2 with fail
  rw [← hth]
  clear hth hmin
  go_cut [6, 7] (fun s6 s7 wx => ∃ L : Nat, s6 = .pointer (some ⟨L, 0, none⟩) ∧ s7 = .int .i64 (er o) ∧ Bx (W.heap.size ≤ L ∧ Lies wx L 23 #[.int .u8 (kd o : Int), .string (S (txt o))] ∧ Below W.heap.size W wx))
  case first =>
    have bb : Below W.heap.size W W.drew := (Below.refl _ W).drew
    have bw := Below.refl W.heap.size W
    have hadd := HADD.out
    unfold hv at HP
    clear HADD
    go_region_held3 (fun W' => W'.cell? ⟨g, 0, none⟩ = some (.slice A m c) ∧ (convert 28 9 (.slice A th c)).run Tryz.prog W' = .ok (.string sA) W')
      (first | with_reducible exact HCV.out _ bb | with_reducible exact HCV.out _ (bb.alloc bb.size _) | with_reducible exact HCV.out _ (bw.alloc (Nat.le_refl _) _).drew | exact HCV.out _ (by repeat (first | with_reducible exact bb | refine Below.setCell ?_ (by first | exact Nat.le_refl _ | exact hle) _)))
      (first
        | (go_at_call 24; refine (HR.out _).mono ?_; rintro e w5 ⟨rfl, hg5⟩; first | (replace bb := step_bb (by with_reducible exact bb) hg5) | (have LN := lies_newd hg5; replace bb := step_bb (by with_reducible exact (bw.alloc (Nat.le_refl _) _).drew) hg5))
        | (go_at_call 23; refine (HP.out _ (HE.out.below (by first | with_reducible exact bb | with_reducible exact bb.alloc bb.size _))).mono ?_; rintro e w6 ⟨rfl, hg6⟩; first | (have l0 := (LN.below hg6 LN.lt).cell 0; have l1 := (LN.below hg6 LN.lt).cell 1; have lf := fun i => (LN.below hg6 LN.lt).frozen i; have LM := LN.below hg6 LN.lt; simp at l0 l1; replace bb := step_bb (by with_reducible exact bb) hg6) | (replace bb := step_bb (by with_reducible exact bb) hg6) | (have hle := bb.size; have LM := lies_new hg6; have l0 := LM.cell 0; have l1 := LM.cell 1; have lf := fun i => LM.frozen i; simp at l0 l1; replace bb := step_bb (by with_reducible exact bb.alloc bb.size _) hg6)))
    all_goals
      clear HCV HR HP HE HH hadd
      go_wp2_with fail
      go_meet
      first
        | exact ⟨_, rfl, rfl, ⟨bb.size, Lies.new w6 23 _, bb.alloc bb.size _⟩⟩
        | exact ⟨_, rfl, rfl, ⟨hle, (LM.set 0 (.int .u8 (kd o : Int))).set 1 (.string (S (txt o))), (bb.setCell hle _).setCell hle _⟩⟩
        | exact ⟨_, rfl, rfl, ⟨Nat.le_refl _, (LM.set 0 (.int .u8 (kd o : Int))).set 1 (.string (S (txt o))), (bb.setCell (Nat.le_refl _) _).setCell (Nat.le_refl _) _⟩⟩
  case rest =>
    obtain ⟨L, rfl, rfl, HL⟩ := hcut
    obtain ⟨hle, hll, hbx⟩ := HL.out
    have l0 := hll.cell 0
    have l1 := hll.cell 1
    simp at l0 l1
    have HX := Bx.mk (HH.out.keep hbx)
    have hBW : B ≤ W.heap.size := by
      obtain ⟨A, c, hl, _⟩ := HH.out.lies
      exact Nat.le_trans HH.out.ge (Nat.le_of_lt hl.lt)
    have HB := Bx.mk (kp_below (g := g) hbx)
    have hLg : L < wc.heap.size := hll.lt
    have HLL := Bx.mk hll
    have hn5 : n ≤ 100000 := by omega
    have hgL : L ≠ g := by
      obtain ⟨A, c, hl, _⟩ := HH.out.lies
      have := hl.lt
      omega
    clear HL hll hbx hle HCV HR HP HE HH HADD
    have e0 : er o = 0 ∨ er o = 40 := by cases o <;> simp [er]
    by_cases h3 : is3 o = true
    · have e1 : er o = 0 := by cases o <;> simp [is3] at h3 <;> rfl
      have e2 : kd o = 3 := by cases o <;> simp [is3] at h3; exact h3
      have e3 := HR2.out
      rw [if_pos h3] at e3
      subst e3
      rw [e1]
      rw [e2] at l0 HLL
      have l0' : wc.cell? ⟨L, 0, none⟩ = some (.int .u8 3) := l0
      clear e0 e1 e2 h3 HR2 l0
      generalize S (txt o) = sT at *
      go_wp2_with fail
      refine (text_any HX.out n hn5).mono ?_
      rintro e w7 ⟨rfl, h7, b7⟩
      have hl7 := (kp_lies b7 HLL.out hgL).cell 1
      simp at hl7
      have H7 := Bx.mk h7
      have B7 := Bx.mk (kp_trans HB.out b7)
      clear h7 b7 HLL HX HB l0' l1
      go_wp2_with fail
      exact bodyPost_ret (v := .string sT) (by simp [results, Tryz.results18, go_sem]) rfl ⟨rfl, H7.out, B7.out⟩
    · have e3 := HR2.out
      rw [if_neg h3] at e3
      subst e3
      have q : ((kd o : Int) != 3) = true ∨ er o = 40 := by
        cases o with
        | none => exact .inr rfl
        | some h => exact .inl (by simp [is3] at h3; simp [kd]; omega)
      clear h3 HR2
      rcases e0 with e1 | e1
      · rw [e1] at q ⊢
        have q : ((kd o : Int) != 3) = true := by simpa using q
        generalize (kd o : Int) = z at *
        generalize S (txt o) = sT at *
        clear e1
        go_wp2_with fail
        refine (fail_any HX.out 6).mono ?_
        rintro e w6 ⟨rfl, h6, b6⟩
        have HL6 := Bx.mk (kp_lies b6 HLL.out hgL)
        have H6 := Bx.mk h6
        have B6 := Bx.mk (kp_trans HB.out b6)
        clear h6 b6 HLL HX HB l0 l1
        go_wp2_with fail
        refine (text_any H6.out n hn5).mono ?_
        rintro e w7 ⟨rfl, h7, b7⟩
        have hl7 := (kp_lies b7 HL6.out hgL).cell 1
        simp at hl7
        have H7 := Bx.mk h7
        have B7 := Bx.mk (kp_trans B6.out b7)
        clear h7 b7 HL6 H6 B6
        go_wp2_with fail
        exact bodyPost_ret (v := .string sT) (by simp [results, Tryz.results18, go_sem]) rfl ⟨rfl, H7.out, B7.out⟩
      · rw [e1]
        generalize (kd o : Int) = z at *
        generalize S (txt o) = sT at *
        clear e1 q
        go_wp2_with fail
        refine (fail_any HX.out 6).mono ?_
        rintro e w6 ⟨rfl, h6, b6⟩
        have HL6 := Bx.mk (kp_lies b6 HLL.out hgL)
        have H6 := Bx.mk h6
        have B6 := Bx.mk (kp_trans HB.out b6)
        clear h6 b6 HLL HX HB l0 l1
        go_wp2_with fail
        refine (text_any H6.out n hn5).mono ?_
        rintro e w7 ⟨rfl, h7, b7⟩
        have hl7 := (kp_lies b7 HL6.out hgL).cell 1
        simp at hl7
        have H7 := Bx.mk h7
        have B7 := Bx.mk (kp_trans B6.out b7)
        clear h7 b7 HL6 H6 B6
        go_wp2_with fail
        exact bodyPost_ret (v := .string sT) (by simp [results, Tryz.results18, go_sem]) rfl ⟨rfl, H7.out, B7.out⟩
end
end Go.Proofs.YtefpplkoohnfbabGreatDoor.ak
