/-
  Given for the seat's laws: the contracts of the law's own row, great and order. No condition but those of the theorems.
-/
import Derived.Test.YtimlcjdpnhhjdaaRLib1
namespace Go.Proofs.Ytimlcjdpnhhjdaa.rk
open Go.RowKit mem sp
set_option linter.unusedVariables false

/-- runners as they lie: a name, a weight -/
abbrev Rn := Str × Int
structure RunsAt (w : World) (ok : Nat → Prop) (A : Option Addr) (l : List Rn) : Prop where
  ex : 0 < l.length → ∃ g off, A = some ⟨g, off, none⟩ ∧ ok g ∧ ∀ (j : Nat) (x : Rn), l[j]? = some x → w.cell? ⟨g, off + j * 2, none⟩ = some (.string (S x.1)) ∧ w.cell? ⟨g, off + j * 2 + 1, none⟩ = some (.int .i64 x.2)
section
variable {w w' : World} {ok ok' : Nat → Prop} {A : Option Addr} {l : List Rn}
theorem RunsAt.keep (h : RunsAt w ok A l) (hk : ∀ g, ok g → w'.heap[g]? = w.heap[g]?) : RunsAt w' ok A l := ⟨fun hp => by
  obtain ⟨g, off, e, ho, hc⟩ := h.ex hp
  exact ⟨g, off, e, ho, fun j x hx => ⟨(World.cell?_of_block (hk g ho)).trans (hc j x hx).1, (World.cell?_of_block (hk g ho)).trans (hc j x hx).2⟩⟩⟩
theorem RunsAt.weak (h : RunsAt w ok A l) (hk : ∀ g, ok g → ok' g) : RunsAt w ok' A l := ⟨fun hp => by
  obtain ⟨g, off, e, ho, hc⟩ := h.ex hp
  exact ⟨g, off, e, hk g ho, hc⟩⟩
theorem RunsAt.below {B : Nat} (h : RunsAt w ok A l) (hb : Below B w w') (hg : ∀ g, ok g → g < B) : RunsAt w' ok A l := h.keep fun g hk => hb.block g (hg g hk)
theorem RunsAt.cell (h : RunsAt w ok A l) {j : Nat} {x : Rn} (hx : l[j]? = some x) : ∃ g off, A = some ⟨g, off, none⟩ ∧ ok g ∧ w.cell? ⟨g, off + j * 2, none⟩ = some (.string (S x.1)) ∧ w.cell? ⟨g, off + j * 2 + 1, none⟩ = some (.int .i64 x.2) := by
  obtain ⟨g, off, e, ho, hc⟩ := h.ex (by have := (List.getElem?_eq_some_iff.1 hx).1; omega)
  exact ⟨g, off, e, ho, hc j x hx⟩
end
def nms (l : List Rn) : List Str := l.map Prod.fst
def wts (l : List Rn) : List Int := l.map Prod.snd
theorem nms_len (l : List Rn) : (nms l).length = l.length := by simp [nms]
theorem wts_len (l : List Rn) : (wts l).length = l.length := by simp [wts]
/-- a row of names, a row of weights, of the call's own -/
structure RW (w wr : World) (vn vw : Value) (l : List Rn) : Prop where
  ns : MadeR 9 w wr vn (strs (nms l))
  ws : MadeR 3 w wr vw (intv (wts l))
def RowTo (l : List Rn) (w : World) (e : Ending) (w' : World) : Prop := ∃ A c B d, e = .returned (.tuple #[.slice A l.length c, .slice B l.length d]) ∧ RW w w' (.slice A l.length c) (.slice B l.length d) l

set_option maxHeartbeats 4000000 in
set_option maxRecDepth 100000 in
theorem row_any {w : World} {ok : Nat → Prop} {A : Option Addr} {n c : Nat} {l : List Rn} (hl : l.length = n) (hr : RunsAt w ok A l) (hok : ∀ g, ok g → g < w.heap.size) (hn : n < 8796093022208) :
    Calls Try.prog 28 #[.slice A n c] w (RowTo l w) := by
  unfold RowTo
  rw [hl]
  have HL := Bx.mk hl
  have HR := Bx.mk hr
  have HOK := Bx.mk hok
  have h0 : Bx (RW w w (.slice none (0 : Nat) 0) (.slice none (0 : Nat) 0) (l.take 0)) := ⟨⟨MadeR.start _ _, MadeR.start _ _⟩⟩
  clear hl hr hok
  go_enter Try.func28, Try.ntmps28
  go_wp2
  go_loopw [4, 5, 6] (fun s4 s5 s6 wr => ∃ (i : Nat) (A' : Option Addr) (c' : Nat) (B' : Option Addr) (d' : Nat), i ≤ n ∧ s4 = .slice A' i c' ∧ s5 = .slice B' i d' ∧ s6 = .int .i64 (i : Int) ∧ Bx (RW w wr (.slice A' i c') (.slice B' i d') (l.take i))) (fun _ _ s6 _ => n - (intOf s6).toNat)
  case atStart => exact ⟨0, none, 0, none, 0, by omega, rfl, rfl, rfl, h0⟩
  case round =>
    clear h0
    obtain ⟨i, A', c', B', d', hi, rfl, rfl, rfl, HW⟩ := hrel
    by_cases hlt : i < n
    · obtain ⟨x, hx⟩ : ∃ x, l[i]? = some x := ⟨_, List.getElem?_eq_getElem (by rw [HL.out]; exact hlt)⟩
      have hbw := HW.out.ns.below
      obtain ⟨g, off, rfl, ho, c1, c2⟩ := (HR.out.below hbw HOK.out).cell hx
      have hgl := HOK.out g ho
      have hti : (l.take i).length = i := by rw [List.length_take, HL.out]; omega
      have htk : l.take (i + 1) = l.take i ++ [x] := by rw [List.take_add_one, hx]; rfl
      have e1 : strs (nms (l.take (i + 1))) = strs (nms (l.take i)) ++ [.string (S x.1)] := by rw [htk]; simp [strs, nms]
      have e2 : intv (wts (l.take (i + 1))) = intv (wts (l.take i)) ++ [.int .i64 x.2] := by rw [htk]; simp [intv, wts]
      obtain ⟨A2, p2, w2, ap1, md1, kp1⟩ := HW.out.ns.push kStr (.string (S x.1)) rfl (n := i) (by rw [strs_len, nms_len, hti]) (by omega) (by unfold maxLen; omega)
      rw [← e1] at md1
      have ws2 : MadeR 3 w w2 (.slice B' i d') (intv (wts (l.take i))) := ⟨rown_same HW.out.ws.own (fun g hg => kp1 g (rown_lt HW.out.ws.own hg).2 (rown_apart HW.out.ws.own HW.out.ns.own (by decide) hg)), md1.below⟩
      obtain ⟨B2, q2, w3, ap2, md2, kp2⟩ := ws2.push kInt (.int .i64 x.2) rfl (n := i) (by rw [intv_len, wts_len, hti]) (by omega) (by unfold maxLen; omega)
      rw [← e2] at md2
      have ns3 : MadeR 9 w w3 (.slice A2 (i + 1 : Nat) p2) (strs (nms (l.take (i + 1)))) := ⟨rown_same md1.own (fun g hg => kp2 g (rown_lt md1.own hg).2 (rown_apart md1.own ws2.own (by decide) hg)), md2.below⟩
      have c3 : w2.cell? ⟨g, off + i * 2 + 1, none⟩ = some (.int .i64 x.2) := by
        have hne : (Value.slice A' i c').ownBlock ≠ some g := fun e => by have := (rown_lt HW.out.ns.own e).1; omega
        rw [World.cell?_of_block (show w2.heap[g]? = wr.heap[g]? from kp1 g (Nat.lt_of_lt_of_le hgl hbw.size) hne)]
        exact c2
      have AP1 := Bx.mk ap1
      have AP2 := Bx.mk ap2
      have HW3 : Bx (RW w w3 (.slice A2 (i + 1 : Nat) p2) (.slice B2 (i + 1 : Nat) q2) (l.take (i + 1))) := ⟨⟨ns3, md2⟩⟩
      have i0 : (0 : Int) ≤ (i : Int) := by omega
      have i1 : (i : Int) < (n : Int) := by omega
      clear hx hbw ho hgl hti htk e1 e2 ap1 md1 kp1 ws2 ap2 md2 kp2 ns3 HW
      go_wp2_with (first | (at_builtin; refine wpList_append_g rfl _ _ rfl rfl rfl rfl AP1.out ?_) | (at_builtin; refine wpList_append_g rfl _ _ rfl rfl rfl rfl AP2.out ?_))
      go_roundw
      case rel => exact ⟨i + 1, A2, p2, B2, q2, by omega, rfl, rfl, by go_num, HW3⟩
      case measure => simp [intOf]; omega
    · obtain rfl : i = n := by omega
      have htk : l.take i = l := List.take_of_length_le (by rw [HL.out]; exact Nat.le_refl _)
      rw [htk] at HW
      clear htk
      go_wp2
      go_ret2
      exact ⟨A', c', B', d', rfl, HW.out⟩

set_option maxHeartbeats 4000000 in
set_option maxRecDepth 100000 in
theorem lgreat_any {w : World} {ok : Nat → Prop} {K A : Option Addr} {k ck n c : Nat} {l : List Rn} (hl : l.length = n) (hr : RunsAt w ok A l) (hok : ∀ g, ok g → g < w.heap.size) (hn : n < 8796093022208) :
    Calls Try.prog 18 #[.slice K k ck, .slice A n c] w fun e w' => e = .returned (.bool (gr k (nms l))) ∧ Below w.heap.size w w' := by
  have HR := row_any (c := c) hl hr hok hn
  unfold RowTo at HR
  rw [hl] at HR
  have HRR := Bx.mk HR
  have HL := Bx.mk hl
  clear HR hr hok hl
  go_enter Try.func18, Try.ntmps18
  go_wp2_with fail
  refine HRR.out.mono ?_
  rintro e w1 ⟨A1, c1, B1, d1, rfl, hrw⟩
  have HG := Bx.mk (great_any (K := K) (n := k) (c := ck) (d := c1) (l := nms l) (m := n) (by rw [nms_len]; exact HL.out) (hrw.ns.row (by rw [strs_len, nms_len]; exact HL.out)))
  have HB := Bx.mk hrw.ns.below
  clear hrw HRR
  go_wp2_with fail
  refine HG.out.mono ?_
  rintro e w2 ⟨rfl, rfl⟩
  go_wp2
  go_ret
  exact ⟨rfl, HB.out⟩

/-- the scores of runners -/
def SR (key : Str) (l : List Rn) : Nat → Sc := Sfn key (nms l) (wts l)
set_option maxHeartbeats 4000000 in
set_option maxRecDepth 100000 in
theorem lorder_any {w : World} {okk ok : Nat → Prop} {K A : Option Addr} {k ck n c : Nat} {key : Str} {l : List Rn} (hk : Spell w okk K k ck key) (hokk : ∀ g, okk g → g < w.heap.size) (hl : l.length = n) (hr : RunsAt w ok A l) (hok : ∀ g, ok g → g < w.heap.size) (hn : n ≤ 16) (hx : ∀ x ∈ nms l, x.length ≤ 100000) :
    Calls Try.prog 19 #[.slice K k ck, .slice A n c] w (OrdTo (SR key l) n w) := by
  have HR := row_any (c := c) hl hr hok (by omega)
  unfold RowTo at HR
  rw [hl] at HR
  have HRR := Bx.mk HR
  have HL := Bx.mk hl
  have HK := Bx.mk hk
  have HOKK := Bx.mk hokk
  have HX := Bx.mk hx
  clear HR hr hok hl hk hokk hx
  go_enter Try.func19, Try.ntmps19
  go_wp2_with fail
  refine HRR.out.mono ?_
  rintro e w1 ⟨A1, c1, B1, d1, rfl, hrw⟩
  have hb := hrw.ns.below
  have HO := Bx.mk (order_any (N := n) (cm := c1) (cq := d1) (HK.out.below hb HOKK.out) (fun g hg => Nat.lt_of_lt_of_le (HOKK.out g hg) hb.size) (show (nms l).length = n by rw [nms_len]; exact HL.out) (hrw.ns.row (by rw [strs_len, nms_len]; exact HL.out)) (fun _ h => h) HX.out
    (show (wts l).length = n by rw [wts_len]; exact HL.out) (hrw.ws.row (by rw [intv_len, wts_len]; exact HL.out)) (fun _ h => h) (Nat.min_self n) hn)
  have HB := Bx.mk hb
  clear hrw HRR hb
  go_wp2_with fail
  refine HO.out.mono ?_
  rintro e w2 ⟨o, g, rfl, ho, hlies, hg, hb2⟩
  have HF : Bx (Ord (SR key l) n o ∧ Lies w2 g 3 (nats o).toArray ∧ w.heap.size ≤ g ∧ Below w.heap.size w w2) := ⟨⟨ho, hlies, Nat.le_trans HB.out.size hg, HB.out.trans (hb2.mono HB.out.size)⟩⟩
  clear ho hlies hg hb2 HO
  go_wp2
  go_ret
  exact ⟨o, g, rfl, HF.out⟩
end Go.Proofs.Ytimlcjdpnhhjdaa.rk
