/-
  Given for the seat's laws: the document's own answers: the contract of its Text. No condition but those of the theorems.
-/
import Derived.Test.YtpllhnknejceiaaDoorHRMay
import Derived.Test.YtpllhnknejceiaaDoorHRNum
import Derived.Test.YtpllhnknejceiaaDoorHPrint
namespace Go.Proofs.YtpllhnknejceiaaDoor.hw
open Go.RowKit mem hostp
set_option linter.unusedVariables false

/-- eight groups as a row of ints -/
def ic (g : List Nat) : Array Value := (g.map fun v : Nat => Value.int .i64 ((v : Nat) : Int)).toArray
theorem ic_get {g : List Nat} {k : Nat} (h : k < g.length) : (ic g)[k]? = some (.int .i64 ((g.getD k 0 : Nat) : Int)) := by
  unfold ic
  rw [List.getElem?_toArray, List.getElem?_map, List.getD_eq_getElem?_getD, List.getElem?_eq_getElem h]
  rfl
theorem ic_size (g : List Nat) : (ic g).size = g.length := by unfold ic; simp
theorem ic_set {g : List Nat} {k v : Nat} : (ic g).setIfInBounds k (.int .i64 (v : Int)) = ic (g.set k v) := by
  unfold ic
  apply Array.toList_inj.1
  simp [List.map_set]
theorem ipart_zero (g : List Nat) : ic (part8 g 0) = #[.int .i64 0, .int .i64 0, .int .i64 0, .int .i64 0, .int .i64 0, .int .i64 0, .int .i64 0, .int .i64 0] := by
  unfold part8
  simp [ic, List.replicate]

theorem getD_get {g : List Nat} {i : Nat} (h : i < g.length) : g[i]? = some (g.getD i 0) := by
  rw [List.getD_eq_getElem?_getD, List.getElem?_eq_getElem h]
  rfl

set_option maxRecDepth 100000 in
set_option maxHeartbeats 4000000 in
theorem rtext_4 (t : ByteArray) (h4 : t.size = 4) (w : World) : Calls Tryd.prog 9 #[hv 1 t] w (Gives (.string (S (text4 t.data.toList))) w) := by
  obtain ⟨b, hbt⟩ : ∃ b, b = t.data.toList := ⟨_, rfl⟩
  have hl4 : b.length = 4 := by rw [hbt, list_len, h4]
  have hbyte : ∀ k, (hk : k < 4) → ((t[k]'(by omega)).toNat : Int) = (((b.getD k 0).toNat : Nat) : Int) := fun k hk => by
    rw [hbt, List.getD_eq_getElem?_getD, byte_at (by omega)]
    rfl
  rw [← hbt]
  obtain ⟨l, hll⟩ : ∃ l, l = b.map fun c => nm 10 c.toNat := ⟨_, rfl⟩
  have hget : ∀ k, k < 4 → l[k]? = some (nm 10 (b.getD k 0).toNat) := fun k hk => by
    rw [hll, List.getElem?_map, List.getD_eq_getElem?_getD, List.getElem?_eq_getElem (by omega)]
    rfl
  have hlen : ∀ k, k ≤ 4 → (join 46 (l.take k)).length ≤ 100 := fun k hk => by
    have := join_len 46 3 (l := l.take k) (fun x hx => by
      rw [hll] at hx
      obtain ⟨c, _, rfl⟩ := List.mem_map.1 (List.mem_of_mem_take hx)
      exact nm10_len c)
    rw [List.length_take] at this
    omega
  have HF := Lib.hid (show join 46 (l.take 4) = text4 b by rw [List.take_of_length_le (by rw [hll, List.length_map]; omega), hll]; rfl)
  have hm := rmay_any 1 t (by omega) (w.alloc (.cells #[.int .u8 1, .string t] 23))
  rw [may1, decide_eq_true h4] at hm
  have HM := Lib.hid hm
  have HBY := Lib.hid hbyte
  have HGET := Lib.hid hget
  have HLEN := Lib.hid hlen
  have HT := Lib.hid (fun k (hk : k < 4) => join_take (a := 46) (hget k hk))
  clear hm hbyte hget hlen hbt hl4 hll
  unfold hv at HM
  unfold hv
  go_enter Tryd.func9, Tryd.ntmps9
  go_wp2_with fail
  refine HM.out.mono ?_
  rintro e w' ⟨rfl, hb1⟩
  have HL := Lib.hid ((Lies.new w 23 #[.int .u8 1, .string t]).below hb1 (by simp))
  have HB := Lib.hid (((Below.refl _ w).alloc (Nat.le_refl _) (.cells #[.int .u8 1, .string t] 23)).trans (hb1.mono (by simp)))
  clear hb1
  have c0 := HL.out.cell 0
  have c1 := HL.out.cell 1
  simp at c0 c1
  go_wp2
  clear c0 c1
  go_loopw [3, 4] (fun s3 s4 wr => ∃ k : Nat, k ≤ 4 ∧ s4 = .int .i64 (k : Int) ∧ s3 = .string (S (join 46 (l.take k))) ∧ Hid (Lies wr w.heap.size 23 #[.int .u8 1, .string t]) ∧ Hid (Below w.heap.size w wr)) (fun _ s4 _ => 4 - (intOf s4).toNat)
  case atStart => exact ⟨0, by omega, rfl, by rw [List.take_zero]; rfl, HL.out, HB.out⟩
  case round =>
    clear HL HB HM
    obtain ⟨k, hk, rfl, rfl, HL, HB⟩ := hrel
    by_cases hlt : k < 4
    · obtain ⟨u, hu⟩ : ∃ u, u = (b.getD k 0).toNat := ⟨_, rfl⟩
      have hc := HBY.out k hlt
      have hjt := HT.out k hlt
      rw [← hu] at hc hjt
      have hu2 : u < 256 := by rw [hu]; exact (b.getD k 0).toNat_lt
      have hks : k < t.size := by omega
      have HN := Lib.hid (fun W => number10_any u (by omega) W)
      have hl1 := HLEN.out k (by omega)
      have hl2 := nm_len (b := 10) (by omega) 2 u (by omega)
      have d1 := HL.out.cell 1
      simp at d1
      have hw : wrap64 (u : Int) = (u : Int) := by unfold wrap64; omega
      rcases Nat.eq_zero_or_pos k with hk0 | hk0
      · subst hk0
        have a1 : ∀ W, (Op.stringOp .add (S (join 46 (l.take 0))) (S (nm 10 u))).run Tryd.prog W = .ok (.string (S (join 46 (l.take 1)))) W := fun W => by rw [hjt, if_pos rfl, List.nil_append]; exact add_str W _ _ (by omega) (by omega)
        generalize S (join 46 (l.take 0)) = x0 at *
        generalize S (nm 10 u) = x1 at *
        generalize hx2 : S (join 46 (l.take 1)) = x2 at *
        have HX2 := Lib.hid hx2
        clear hu hjt hl1 hl2 hx2
        go_wp2_with fail
        refine (HN.out _).mono ?_
        rintro e w2 ⟨rfl, hb2⟩
        have HL2 := Lib.hid (HL.out.below hb2 HL.out.lt)
        have HB2 := Lib.hid (HB.out.trans (hb2.mono HB.out.size))
        clear hb2 d1
        go_wp2
        go_roundw
        case rel => exact ⟨1, by omega, by go_num, by rw [HX2.out], HL2, HB2⟩
        case measure => simp [intOf]
      · have a0 : ∀ W, (Op.stringOp .add (S (join 46 (l.take k))) ⟨#[46]⟩).run Tryd.prog W = .ok (.string (S (join 46 (l.take k) ++ [46]))) W := fun W => add_str W _ [46] (by omega) (by simp)
        have a1 : ∀ W, (Op.stringOp .add (S (join 46 (l.take k) ++ [46])) (S (nm 10 u))).run Tryd.prog W = .ok (.string (S (join 46 (l.take (k + 1))))) W := fun W => by
          rw [hjt, if_neg (by omega), add_str W _ _ (by rw [List.length_append, List.length_cons, List.length_nil]; omega) (by omega), List.append_assoc]
        generalize S (join 46 (l.take k)) = x0 at *
        generalize S (join 46 (l.take k) ++ [46]) = x3 at *
        generalize S (nm 10 u) = x1 at *
        generalize hx2 : S (join 46 (l.take (k + 1))) = x2 at *
        have HX2 := Lib.hid hx2
        clear hu hjt hl1 hl2 hx2
        go_wp2_with fail
        refine (HN.out _).mono ?_
        rintro e w2 ⟨rfl, hb2⟩
        have HL2 := Lib.hid (HL.out.below hb2 HL.out.lt)
        have HB2 := Lib.hid (HB.out.trans (hb2.mono HB.out.size))
        clear hb2 d1
        go_wp2
        go_roundw
        case rel => exact ⟨k + 1, by omega, by go_num, by rw [HX2.out], HL2, HB2⟩
        case measure => simp [intOf]; omega
    · obtain rfl : k = 4 := by omega
      go_wp2
      go_ret
      exact ⟨by rw [← HF.out]; rfl, HB.out⟩

end Go.Proofs.YtpllhnknejceiaaDoor.hw
