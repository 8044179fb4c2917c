/-
  Given for the seat's laws: the contracts of FormatUint and of words. No condition but that the library's tables lie as they are laid.
-/
import Derived.Test.YtpllhnknejceiaaGreatDoorHFmt
import Derived.Test.YtpllhnknejceiaaGreatDoorHGap
import Derived.Laws.AppendOwn
import Derived.Laws.OwnMore
namespace Go.Proofs.YtpllhnknejceiaaGreatDoor.hw
open Go.RowKit mem hostp
set_option linter.unusedVariables false

set_option maxHeartbeats 1000000 in
theorem formatUint_any (n : Nat) (hn : n < 65536) (w : World) (hd : D64 w) : Calls Tryz.prog 71 #[.int .u64 (n : Int), .int .i64 16] w (Gives (.string (S (nm 16 n))) w) := by
  have H := Lib.hid (formatBits_any n hn w hd)
  clear hd
  go_enter Tryz.func71, Tryz.ntmps71
  go_wp2_with (first | (go_at_call 96; refine H.out.mono ?_; rintro e w' ⟨rfl, hb⟩; have HB := Lib.hid hb; clear hb) | go_in)
  go_ret
  exact ⟨rfl, HB.out⟩

/-- the texts as values -/
def sv (l : List Str) : List Value := l.map fun x => Value.string (S x)
theorem sv_snoc (l : List Str) (x : Str) : sv l ++ [.string (S x)] = sv (l ++ [x]) := by simp [sv]
theorem sv_len (l : List Str) : (sv l).length = l.length := by simp [sv]
/-- the cells of a row of one's own -/
theorem own_cells {W : World} {B : Nat} {e : TypeId} {v : Value} {n : Nat} {xs : List Value} (h : W.ownsRow B e 1 v n xs) (hn : 0 < n) : ∃ g cap, v = .slice (some ⟨g, 0, none⟩) n cap ∧ B ≤ g ∧ g < W.heap.size ∧ n ≤ cap ∧ ∀ j x, xs[j]? = some x → W.cell? ⟨g, j, none⟩ = some x := by
  rcases h.2 with ⟨rfl, h0⟩ | ⟨g, cap, cur, rfl, hb, hh, hnc, hm, hs, ht⟩
  · omega
  · refine ⟨g, cap, rfl, hb, (Array.getElem?_eq_some_iff.1 hh).1, hnc, fun j x hx => ?_⟩
    rw [← ht, Nat.mul_one, List.getElem?_take] at hx
    split at hx
    · simp [World.cell?, hh]
      simpa using hx
    · cases hx
/-- texts in a row of one's own, joined -/
theorem join_own {W : World} {B : Nat} {v : Value} {l : List Str} (h : W.ownsRow B 9 1 v l.length (sv l)) (hN : l.length ≤ 1000000) (a : UInt8) (hlen : (join a l).length ≤ 1000000000) :
    Calls Tryz.prog 54 #[v, .string ⟨#[a]⟩] W (Gives (.string (S (join a l))) W) := by
  by_cases h0 : 0 < l.length
  · obtain ⟨g, cap, rfl, hb, hlt, hnc, hc⟩ := own_cells h h0
    exact join_any g cap l a W (fun j x hx => hc j _ (by unfold sv; rw [List.getElem?_map, hx]; rfl)) hlt hN hnc hlen
  · obtain rfl : l = [] := List.length_eq_zero_iff.1 (by omega)
    rcases h.2 with ⟨rfl, _⟩ | ⟨g, cap, cur, rfl, hb, hh, hnc, hm, hs, ht⟩
    · exact (Tryz.strings_Join_none _ _ _ W).mono fun e w' ⟨he, hw⟩ => ⟨he, hw ▸ Below.refl _ _⟩
    · exact (Tryz.strings_Join_none _ _ _ W).mono fun e w' ⟨he, hw⟩ => ⟨he, hw ▸ Below.refl _ _⟩

theorem own_below {W W' : World} {B : Nat} {e : TypeId} {v : Value} {n : Nat} {xs : List Value} (h : W.ownsRow B e 1 v n xs) (hb : Below W.heap.size W W') : W'.ownsRow B e 1 v n xs := by
  refine ⟨h.1, ?_⟩
  rcases h.2 with h2 | ⟨g, cap, cur, he, hB, hh, hr⟩
  · exact .inl h2
  · exact .inr ⟨g, cap, cur, he, hB, (hb.block g (Array.getElem?_eq_some_iff.1 hh).1).trans hh, hr⟩

/-- what holds between two rounds -/
structure Wds (w wr : World) (v : Value) (g : List Nat) (l : List Str) (k : Nat) : Prop where
  own : wr.ownsRow w.heap.size 9 1 v k (sv (l.take k))
  below : Below w.heap.size w wr
  grp : Lies wr w.heap.size 65 (gc g)
  far : v.ownBlock ≠ some w.heap.size
theorem info_parts' {P : Program} {t : TypeId} {z : Value} {s b : Nat} (h : (P.info? t).map (fun i => (i.zero, i.size, i.bytes)) = some (some z, s, b)) : ∃ i, P.info? t = some i ∧ i.zero = some z ∧ i.size = s ∧ i.bytes = b := by
  obtain ⟨i, hi, he⟩ := Option.map_eq_some_iff.1 h
  simp only [Prod.mk.injEq] at he
  exact ⟨i, hi, he.1, he.2.1, he.2.2⟩

theorem own_far {W : World} {B : Nat} {e : TypeId} {v : Value} {n : Nat} {xs : List Value} (h : W.ownsRow B e 1 v n xs) : ∀ j, v.ownBlock = some j → B ≤ j := by
  intro j hj
  rcases h.2 with ⟨rfl, h0⟩ | ⟨g, cap, cur, rfl, hb, _⟩
  · simp [Value.ownBlock] at hj
  · simp [Value.ownBlock] at hj
    omega

theorem wds_join {w wr : World} {v : Value} {g : List Nat} {l : List Str} {k : Nat} (h : Wds w wr v g l k) : Wds w wr v g l k := h

set_option maxRecDepth 100000 in
set_option maxHeartbeats 4000000 in
theorem words_any (g : List Nat) (h8 : g.length = 8) (hg : ∀ v ∈ g, v < 65536) (f t : Nat) (hf : f ≤ t) (ht : t ≤ 8) (w : World) (he : D64 w) :
    Calls Tryz.prog 56 #[gv g, .int .i64 (f : Int), .int .i64 (t : Int)] w (Gives (.string (S (join 58 (((g.drop f).take (t - f)).map (nm 16))))) w) := by
  obtain ⟨i0, hi, hz0, hz1, hz2⟩ := info_parts' (show (Tryz.prog.info? 9).map (fun i => (i.zero, i.size, i.bytes)) = some (some (.string ⟨#[]⟩), 1, 16) by kernel_rfl)
  obtain ⟨l, hl⟩ : ∃ l, l = ((g.drop f).take (t - f)).map (nm 16) := ⟨_, rfl⟩
  have hll : l.length = t - f := by rw [hl]; simp; omega
  have hget : ∀ k, k < t - f → l[k]? = some (nm 16 (g.getD (f + k) 0)) := fun k hk => by
    rw [hl, List.getElem?_map, List.getElem?_take, if_pos hk, List.getElem?_drop, List.getD_eq_getElem?_getD, List.getElem?_eq_getElem (by omega)]
    rfl
  have hjl : (join 58 l).length ≤ 1000000000 := by
    have := join_len 58 4 (l := l) (fun x hx => by
      rw [hl] at hx
      obtain ⟨v, hv, rfl⟩ := List.mem_map.1 hx
      exact nm_len (by omega) 3 v (by have := hg v (List.mem_of_mem_drop (List.mem_of_mem_take hv)); omega))
    omega
  rw [← hl]
  obtain ⟨w0, hw0⟩ : ∃ w0, w0 = w.alloc (.cells (gc g) 65) := ⟨_, rfl⟩
  have h0 : w0.ownsRow (w.heap.size + 1) 9 1 (.slice none 0 0) 0 (sv (l.take 0)) := ⟨rfl, .inl ⟨rfl, rfl⟩⟩
  have hb0 : Below w.heap.size w w0 := by rw [hw0]; exact (Below.refl _ w).alloc (Nat.le_refl _) _
  have hl0 : Lies w0 w.heap.size 65 (gc g) := by rw [hw0]; exact Lies.new _ _ _
  have H0 := Lib.hid h0
  have HB0 := Lib.hid hb0
  have HL0 := Lib.hid hl0
  have HE := Lib.hid he
  have HLL := Lib.hid hll
  have HJL := Lib.hid hjl
  have HGET := Lib.hid hget
  have HGG := Lib.hid hg
  have H8 := Lib.hid h8
  unfold gv
  obtain ⟨cs, hcs⟩ : ∃ cs, cs = gc g := ⟨_, rfl⟩
  have HCS := Lib.hid hcs
  rw [← hcs] at HL0 hw0 ⊢
  clear h0 hb0 hl0 he hll hget hjl hl hg h8 hcs
  go_enter Tryz.func56, Tryz.ntmps56
  go_wp2
  rw [← hw0]
  clear hw0
  go_loopw [7, 12] (fun v s12 wr => ∃ k : Nat, k ≤ t - f ∧ s12 = .int .i64 (k : Int) ∧ Hid (wr.ownsRow (w.heap.size + 1) 9 1 v k (sv (l.take k))) ∧ Hid (Below w.heap.size w wr) ∧ Hid (Lies wr w.heap.size 65 cs)) (fun _ s12 _ => t - f - (intOf s12).toNat)
  case atStart => exact ⟨0, by omega, rfl, H0.out, HB0.out, HL0.out⟩
  case round =>
    clear H0 HB0 HL0
    obtain ⟨k, hk, rfl, HO, HB, HL⟩ := hrel
    by_cases hlt : k < t - f
    · obtain ⟨v, hv⟩ : ∃ v, v = g.getD (f + k) 0 := ⟨_, rfl⟩
      have hlk := HGET.out k hlt
      rw [← hv] at hlk
      have hv6 : v < 65536 := by
        rw [hv, List.getD_eq_getElem?_getD, List.getElem?_eq_getElem (show f + k < g.length by rw [H8.out]; omega)]
        exact HGG.out _ (List.getElem_mem _)
      have hc : wr.cell? ⟨w.heap.size, f + k, none⟩ = some (.int .u16 (v : Int)) := by rw [HL.out.cell, HCS.out, gc_get (by rw [H8.out]; omega), hv]
      have hfm := formatUint_any v hv6 wr (cell_kept HE.out HB.out)
      have hw1 : IntKind.u64.wrap (v : Int) = (v : Int) := by rw [IntKind.wrap_u64]; omega
      have HFM := Lib.hid hfm
      have HLK := Lib.hid hlk
      obtain ⟨p, hp⟩ : ∃ p : Nat, p = f + k := ⟨_, rfl⟩
      have hfk : (f : Int) + (k : Int) = (p : Int) := by omega
      have hp8 : p < 8 := by omega
      rw [← hp] at hc
      have hwf : wrap64 (p : Int) = (p : Int) := by unfold wrap64; omega
      have hcs8 : cs.size = 8 := by rw [HCS.out, gc_size, H8.out]
      have hpc : p < cs.size := hcs8.symm ▸ hp8
      clear hfm hlk hv hp hcs8
      have hk1 : k + 1 ≤ maxLen := by unfold maxLen; omega
      have hk2 : (k + 1) * 16 ≤ 140737488355328 := by omega
      have hz16 : (Value.string ⟨#[]⟩).cells.size = 1 := rfl
      go_wp2_with fail
      refine HFM.out.mono ?_
      rintro e w2 ⟨rfl, hb2⟩
      have ho2 : w2.ownsRow (w.heap.size + 1) 9 1 u7 k (sv (l.take k)) := own_below HO.out hb2
      have HO2 := Lib.hid ho2
      have HB2 := Lib.hid (HB.out.trans (hb2.mono HB.out.size))
      have HL2 := Lib.hid (HL.out.below hb2 HL.out.lt)
      generalize hx : S (nm 16 v) = x
      have HX := Lib.hid hx
      clear hb2 ho2 hx
      go_wp2_with (at_builtin; refine wpList_append_own _ rfl _ _ 74 rfl (w.heap.size + 1) 9 i0 (.string ⟨#[]⟩) 1 16 Tryz.underlying74 hi hz0 hz1 hz2 hz16 (by decide) _ k (sv (l.take k)) rfl (HO2.out.alloc _) ⟨w2.heap.size, 0, none⟩ 1 1 [.string x] rfl rfl ?c1 ?c2 ?c3 ?c4 ?c5 ?_)
      case c1 =>
        intro j u hj
        match j, hj with
        | 0, hj => simp at hj; subst hj; exact (Lies.new w2 9 #[.string x]).cell 0
      case c2 => intro u hu; simp at hu; subst hu; rfl
      case c3 => exact hk1
      case c4 => exact hk2
      case c5 => have := HL2.out.lt; simp; omega
      intro v' w1 hown' hgrow _
      have HN := Lib.hid (show w1.ownsRow (w.heap.size + 1) 9 1 v' (k + 1) (sv (l.take (k + 1))) by
        rw [← HX.out, sv_snoc] at hown'
        have e : l.take (k + 1) = l.take k ++ [nm 16 v] := take_snoc' HLK.out
        rw [e]
        exact hown')
      have hb3 := (HB2.out.alloc HB2.out.size (.cells #[.string x] 9))
      have HB3 := Lib.hid (hb3.grown hgrow hb3.size (fun j hj => by have := own_far HO2.out j hj; omega))
      have HL3 := Lib.hid ((HL2.out.alloc (.cells #[.string x] 9)).grown hgrow (fun e => by have := own_far HO2.out _ e.symm; omega))
      clear hown' hgrow hb3
      go_wp2
      go_roundw
      case rel => exact ⟨k + 1, by omega, by go_num, HN, HB3, HL3⟩
      case measure => simp [intOf]; omega
    · obtain rfl : k = t - f := by omega
      have ho := HO.out
      rw [List.take_of_length_le (by rw [HLL.out]; exact Nat.le_refl _), ← HLL.out] at ho
      have hj := join_own ho (by rw [HLL.out]; omega) 58 HJL.out
      have HJ := Lib.hid hj
      clear hj ho
      go_wp2_with fail
      refine HJ.out.mono ?_
      rintro e w2 ⟨rfl, hb2⟩
      have HB2 := Lib.hid (HB.out.trans (hb2.mono HB.out.size))
      clear hb2
      go_wp2
      go_ret
      exact ⟨rfl, HB2.out⟩

end Go.Proofs.YtpllhnknejceiaaGreatDoor.hw
