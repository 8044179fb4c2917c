/-
  Given for the seat's laws: the document's own answers: the contract of its Text at addresses of sixteen bytes. No condition but those of the theorem.
-/
import Derived.Test.YtpllhnknejceiaaDoorHRText
namespace Go.Proofs.YtpllhnknejceiaaDoor.hw
open Go.RowKit mem hostp
set_option linter.unusedVariables false

/-- what holds while the text grows -/
structure T6 (B : Nat) (w wr : World) (l : List Str) (g : List Nat) (k m i : Nat) (s : ByteArray) : Prop where
  out : s = S (out6 l k m i)
  row : Lies wr B 38 (ic g)
  keep : Below w.heap.size w wr

theorem out6_len {l : List Str} (h8 : l.length = 8) (hx : ∀ x ∈ l, x.length ≤ 4) (k m i : Nat) : (out6 l k m i).length ≤ 1000 := by
  have hj : ∀ l' : List Str, (∀ x ∈ l', x ∈ l) → l'.length ≤ 8 → (join 58 l').length ≤ 40 := fun l' hs hl => by
    have := join_len 58 4 (l := l') (fun x h => hx x (hs x h))
    omega
  unfold out6
  split
  · have := hj (l.take i) (fun x h => List.mem_of_mem_take h) (by simp; omega)
    omega
  · have h1 := hj (l.take k) (fun x h => List.mem_of_mem_take h) (by simp; omega)
    have h2 := hj ((l.drop (k + m)).take (i - (k + m))) (fun x h => List.mem_of_mem_drop (List.mem_of_mem_take h)) (by simp; omega)
    rw [List.length_append, List.length_cons, List.length_cons]
    omega

set_option maxRecDepth 100000 in
set_option maxHeartbeats 16000000 in
theorem rtext_6 (t : ByteArray) (h16 : t.size = 16) (w : World) : Calls Tryd.prog 9 #[hv 2 t] w (Gives (.string (S (text6 t.data.toList))) w) := by
  obtain ⟨g, hg⟩ : ∃ g, g = un2 t.data.toList := ⟨_, rfl⟩
  have hl8 : g.length = 8 := by rw [hg]; exact un2_len 8 (by rw [list_len]; omega)
  have hgs : ∀ v ∈ g, v < 65536 := by rw [hg]; exact un2_lt 8 (by rw [list_len]; omega)
  have hbyte : ∀ k, (hk : k < 8) → ∃ x y : Nat, x < 256 ∧ y < 256 ∧ ((t[2 * k]'(by omega)).toNat : Int) = (x : Int) ∧ ((t[2 * k + 1]'(by omega)).toNat : Int) = (y : Int) ∧ g.getD k 0 = 256 * x + y := fun k hk => by
    refine ⟨_, _, (t[2 * k]'(by omega)).toNat_lt, (t[2 * k + 1]'(by omega)).toNat_lt, rfl, rfl, ?_⟩
    rw [hg, List.getD_eq_getElem?_getD, un2_get (byte_at (by omega)) (byte_at (by omega))]
    rfl
  have hte : text6 t.data.toList = tx6 (g.map (nm 16)) (bst g 8).1 (bst g 8).2 := by unfold text6; rw [← hg]
  rw [hte]
  have HBY := Lib.hid hbyte
  have HL8 := Lib.hid hl8
  have HGS := Lib.hid hgs
  have hm := rmay_any 2 t (by omega) (w.alloc (.cells #[.int .u8 2, .string t] 23))
  rw [may2, decide_eq_true h16] at hm
  have HM := Lib.hid hm
  clear hbyte hl8 hg hgs hm hte
  unfold hv at HM
  unfold hv
  go_enter Tryd.func9, Tryd.ntmps9
  go_wp2_with fail
  refine HM.out.mono ?_
  rintro e w' ⟨rfl, hb1⟩
  have hlt1 : w.heap.size < w'.heap.size := by have := hb1.size; simp at this; omega
  have HL := Lib.hid ((Lies.new w 23 #[.int .u8 2, .string t]).below hb1 (by simp))
  have HB := Lib.hid (((Below.refl _ w).alloc (Nat.le_refl _) (.cells #[.int .u8 2, .string t] 23)).trans (hb1.mono (by simp)))
  clear hb1
  have c0 := HL.out.cell 0
  have c1 := HL.out.cell 1
  simp at c0 c1
  obtain ⟨w0, hw0⟩ : ∃ w0, w0 = w'.alloc (.cells #[.int .i64 0, .int .i64 0, .int .i64 0, .int .i64 0, .int .i64 0, .int .i64 0, .int .i64 0, .int .i64 0] 38) := ⟨_, rfl⟩
  have hl0 : Lies w0 w'.heap.size 38 (ic (part8 g 0)) := by rw [hw0, ipart_zero]; exact Lies.new _ _ _
  have HL0 := Lib.hid hl0
  have HH0 := Lib.hid (show Lies w0 w.heap.size 23 #[.int .u8 2, .string t] by rw [hw0]; exact HL.out.alloc _)
  have HB0 := Lib.hid (show Below w.heap.size w w0 by rw [hw0]; exact HB.out.alloc HB.out.size _)
  clear hl0
  go_wp2
  rw [← hw0]
  clear hw0 c0 c1 HL HB HM
  generalize w'.heap.size = B at *
  have HWB := Lib.hid hlt1
  clear hlt1
  go_loopw [6] (fun s6 wr => ∃ k : Nat, k ≤ 8 ∧ s6 = .int .i64 (k : Int) ∧ Hid (Lies wr w.heap.size 23 #[.int .u8 2, .string t]) ∧ Hid (Lies wr B 38 (ic (part8 g k))) ∧ Hid (Below w.heap.size w wr)) (fun s6 _ => 8 - (intOf s6).toNat)
  case atStart => exact ⟨0, by omega, rfl, HH0.out, HL0.out, HB0.out⟩
  case round =>
    clear HL0 HH0 HB0
    obtain ⟨k, hk, rfl, HH, HR, HB⟩ := hrel
    by_cases hlt : k < 8
    · obtain ⟨x, y, hx, hy, e1, e2, hgk⟩ := HBY.out k hlt
      have hi1 : ∀ W, (Instr.index 9 (.string t) (.int .i64 (2 * (k : Int)))).run Tryd.prog W = .ok (.int .u8 (x : Int)) W := fun W => by
        rw [run_index_string (P := Tryd.prog) W 9 t .i64 _ Tryd.underlying9, dif_pos ⟨by omega, by omega⟩]
        have h9 : (2 * (k : Int)).toNat = 2 * k := by omega
        simp only [h9, e1]
      have hi2 : ∀ W, (Instr.index 9 (.string t) (.int .i64 (2 * (k : Int) + 1))).run Tryd.prog W = .ok (.int .u8 (y : Int)) W := fun W => by
        rw [run_index_string (P := Tryd.prog) W 9 t .i64 _ Tryd.underlying9, dif_pos ⟨by omega, by omega⟩]
        have h9 : (2 * (k : Int) + 1).toNat = 2 * k + 1 := by omega
        simp only [h9, e2]
      have hs := HR.out.set k (.int .i64 ((256 * x + y : Nat) : Int))
      rw [ic_set, ← hgk, part8_step HL8.out hlt, hgk] at hs
      have fz := HR.out.frozen k
      obtain ⟨x0, hx0⟩ : ∃ x0, wr.cell? ⟨B, k, none⟩ = some x0 := by rw [HR.out.cell k]; exact ⟨_, Array.getElem?_eq_getElem (by rw [ic_size, part8_len HL8.out hk]; omega)⟩
      have HS := Lib.hid hs
      have d1 := HH.out.cell 1
      simp at d1
      have hw1 : IntKind.i64.wrap (2 * (k : Int)) = 2 * (k : Int) := IntWalk.i64_in _ (by omega)
      have hw2 : IntKind.i64.wrap (2 * (k : Int) + 1) = 2 * (k : Int) + 1 := IntWalk.i64_in _ (by omega)
      have hw3 : IntKind.i64.wrap (x : Int) = (x : Int) := IntWalk.i64_in _ (by omega)
      have hw4 : IntKind.i64.wrap (y : Int) = (y : Int) := IntWalk.i64_in _ (by omega)
      have hw5 : IntKind.i64.wrap (256 * (x : Int)) = 256 * (x : Int) := IntWalk.i64_in _ (by omega)
      obtain ⟨z, hz⟩ : ∃ z : Int, z = ((256 * x + y : Nat) : Int) := ⟨_, rfl⟩
      have hw6 : IntKind.i64.wrap (256 * (x : Int) + (y : Int)) = z := by rw [IntWalk.i64_in _ (by omega)]; omega
      rw [← hz] at HS
      clear hs e1 e2 hgk hz
      go_wp2
      go_still_tail 17, (by kernel_rfl)
      change wpList _ _ _ _ _ wr.drew
      have d0 : wr.drew.cell? ⟨B, k, none⟩ = some x0 := hx0
      have d1' : wr.drew.frozen? ⟨B, k, none⟩ = false := fz
      have Q0 := Lib.hid ((HH.out.drew).far (p := ⟨B, k, none⟩) (by show w.heap.size ≠ B; have := HWB.out; omega) (.int .i64 z))
      have Q1 : Hid (Lies (wr.drew.setCell ⟨B, k, none⟩ (.int .i64 z)) B 38 (ic (part8 g (k + 1)))) := HS.out
      have Q2 := Lib.hid ((HB.out.drew).setCell (p := ⟨B, k, none⟩) (by show w.heap.size ≤ B; have := HWB.out; omega) (.int .i64 z))
      generalize wr.drew = w2 at *
      clear hi1 hi2 hx0 fz d1 hw1 hw2 hw3 hw4 hw5 hw6
      go_wp2
      go_roundw
      case rel => exact ⟨k + 1, by omega, by go_num, Q0, Q1, Q2⟩
      case measure => simp [intOf]; omega
    · have hk8 : k = 8 := by omega
      rw [hk8, part8_end HL8.out] at HR
      clear hk hk8
      have HC := Lib.hid (show ∀ k, k < 8 → wr.cell? ⟨B, k, none⟩ = some (.int .i64 ((g.getD k 0 : Nat) : Int)) from fun k hk => by rw [HR.out.cell, ic_get (by rw [HL8.out]; exact hk)])
      go_wp2
      go_loopg [7, 8, 9] 8 (fun gh s7 s8 s9 wx => ∃ i f m : Nat, i + gh = 8 ∧ s9 = .int .i64 (i : Int) ∧ s7 = .int .i64 (f : Int) ∧ s8 = .int .i64 (m : Int) ∧ wr = wx ∧ m ≤ 8 ∧ f ≤ 8 ∧ Hid (bst g i = (f, m)))
      case atStart => exact ⟨0, 0, 0, by omega, rfl, rfl, rfl, rfl, by omega, by omega, rfl⟩
      case round =>
        obtain ⟨i, f, m, hig, rfl, rfl, rfl, rfl, hm8, hf8, HBS⟩ := hrel
        by_cases hi8 : i < 8
        · go_wp2
          have HI8 := Lib.hid hi8
          rw [decide_eq_true (show (i : Int) < 8 by omega)]
          go_loopg [10] (8 - i) (fun gk s10 wy => ∃ k : Nat, k + gk = 8 ∧ i ≤ k ∧ s10 = .int .i64 (k : Int) ∧ wr = wy ∧ Hid (∀ j, i ≤ j → j < k → g[j]? = some 0))
          case atStart => exact ⟨i, by have := HI8.out; omega, Nat.le_refl _, rfl, rfl, fun j h1 h2 => absurd h2 (by omega)⟩
          case round =>
            obtain ⟨k, hkg, hik, rfl, rfl, HZZ⟩ := hrel
            have fin : g[k]? ≠ some 0 → Hid (bst g (i + 1) = if k - i > m ∧ 2 ≤ k - i then (i, k - i) else (f, m)) := fun hne => by
              have h1 := bst_step (zr_drop hik HZZ.out hne)
              rw [HBS.out] at h1
              exact h1
            by_cases hk8 : k < 8
            · obtain ⟨v, hv⟩ : ∃ v, v = g.getD k 0 := ⟨_, rfl⟩
              have hc := HC.out k hk8
              have hgk := getD_get (g := g) (i := k) (by rw [HL8.out]; exact hk8)
              rw [← hv] at hc hgk
              by_cases hv0 : v = 0
              · subst hv0
                have HZ2 : Hid (∀ j, i ≤ j → j < k + 1 → g[j]? = some 0) := fun j h1 h2 => by
                  by_cases e : j = k
                  · subst e; exact hgk
                  · exact HZZ.out j h1 (by omega)
                clear fin hgk hv
                go_wp2
                go_roundg (8 - (k + 1))
                case measure => omega
                case rel => exact ⟨k + 1, by omega, by omega, by go_num, rfl, HZ2⟩
              · have HFIN := fin (by rw [hgk]; simpa using hv0)
                have hv1 : ((v : Int) == 0) = false := beq_eq_false_iff_ne.2 (by omega)
                clear fin hgk hv
                by_cases hc1 : k - i > m ∧ 2 ≤ k - i
                · rw [if_pos hc1] at HFIN
                  have q1 : (m : Int) < (k : Int) - (i : Int) := by omega
                  have q2 : (2 : Int) ≤ (k : Int) - (i : Int) := by omega
                  go_wp2
                  go_roundg (8 - (i + 1))
                  case measure => have := HI8.out; omega
                  case rel => exact ⟨i + 1, i, k - i, by have := HI8.out; omega, by go_num, rfl, by congr 1; omega, rfl, by omega, by omega, HFIN⟩
                · rw [if_neg hc1] at HFIN
                  by_cases hc2 : k - i > m
                  · have q1 : (m : Int) < (k : Int) - (i : Int) := by omega
                    have q2 : ¬ (2 : Int) ≤ (k : Int) - (i : Int) := by omega
                    clear hc1 hc2
                    go_wp2
                    go_roundg (8 - (i + 1))
                    case measure => have := HI8.out; omega
                    case rel => exact ⟨i + 1, f, m, by have := HI8.out; omega, by go_num, rfl, rfl, rfl, by omega, by omega, HFIN⟩
                  · have q1 : ¬ (m : Int) < (k : Int) - (i : Int) := by omega
                    clear hc1 hc2
                    go_wp2
                    go_roundg (8 - (i + 1))
                    case measure => have := HI8.out; omega
                    case rel => exact ⟨i + 1, f, m, by have := HI8.out; omega, by go_num, rfl, rfl, rfl, by omega, by omega, HFIN⟩
            · obtain rfl : k = 8 := by omega
              have HFIN := fin (by rw [List.getElem?_eq_none (by rw [HL8.out]; exact Nat.le_refl _)]; simp)
              clear fin
              by_cases hc1 : 8 - i > m ∧ 2 ≤ 8 - i
              · rw [if_pos hc1] at HFIN
                have q1 : (m : Int) < 8 - (i : Int) := by omega
                have q2 : (2 : Int) ≤ 8 - (i : Int) := by omega
                go_wp2
                go_roundg (8 - (i + 1))
                case measure => have := HI8.out; omega
                case rel => exact ⟨i + 1, i, 8 - i, by have := HI8.out; omega, by go_num, rfl, by congr 1; omega, rfl, by omega, by omega, HFIN⟩
              · rw [if_neg hc1] at HFIN
                by_cases hc2 : 8 - i > m
                · have q1 : (m : Int) < 8 - (i : Int) := by omega
                  have q2 : ¬ (2 : Int) ≤ 8 - (i : Int) := by omega
                  clear hc1 hc2
                  go_wp2
                  go_roundg (8 - (i + 1))
                  case measure => have := HI8.out; omega
                  case rel => exact ⟨i + 1, f, m, by have := HI8.out; omega, by go_num, rfl, rfl, rfl, by omega, by omega, HFIN⟩
                · have q1 : ¬ (m : Int) < 8 - (i : Int) := by omega
                  clear hc1 hc2
                  go_wp2
                  go_roundg (8 - (i + 1))
                  case measure => have := HI8.out; omega
                  case rel => exact ⟨i + 1, f, m, by have := HI8.out; omega, by go_num, rfl, rfl, rfl, by omega, by omega, HFIN⟩
        · have hi88 : i = 8 := by omega
          rw [hi88] at HBS
          clear hig HC hi88
          have hok := bst_ok HL8.out 8 (Nat.le_refl _)
          rw [HBS.out] at hok
          dsimp only at hok
          have hfm : m = 0 ∨ f + m ≤ 8 := hok.imp id (·.1)
          obtain ⟨l, hll⟩ : ∃ l, l = g.map (nm 16) := ⟨_, rfl⟩
          have h8 : l.length = 8 := by rw [hll, List.length_map]; exact HL8.out
          have hget : ∀ i, i < 8 → l[i]? = some (nm 16 (g.getD i 0)) := fun i hi => by rw [hll, List.getElem?_map, getD_get (by rw [HL8.out]; exact hi)]; rfl
          have hlen := out6_len h8 (fun x hx => by
            rw [hll] at hx
            obtain ⟨v, hv, rfl⟩ := List.mem_map.1 hx
            exact nm_len (by omega) 3 v (by have := HGS.out v hv; omega)) f m
          have hv6 : ∀ i, i < 8 → g.getD i 0 < 65536 := fun i hi => HGS.out _ (List.mem_of_getElem? (getD_get (by rw [HL8.out]; exact hi)))
          have HGET := Lib.hid hget
          have HLEN := Lib.hid hlen
          have HV6 := Lib.hid hv6
          have HEND := Lib.hid (show out6 l f m 8 = tx6 (g.map (nm 16)) (bst g 8).1 (bst g 8).2 by rw [HBS.out, out6_end h8 hfm, hll])
          have HST := Lib.hid (out6_start l f m)
          have HN := Lib.hid (fun n (hn : n ≤ 1000000) W => number16_any n hn W)
          have HFM := Lib.hid hfm
          clear hget hlen hv6 hok hll hfm HBS HBY
          go_wp2
          go_loopw [11, 12] (fun s11 s12 wx => ∃ (j : Nat) (s : ByteArray), j ≤ 8 ∧ s12 = .int .i64 (j : Int) ∧ s11 = .string s ∧ (0 < m → j ≤ f ∨ f + m ≤ j) ∧ Hid (T6 B w wx l g f m j s)) (fun _ s12 _ => 8 - (intOf s12).toNat)
          case atStart => exact ⟨0, _, by omega, rfl, rfl, fun _ => by omega, ⟨by rw [HST.out]; rfl, HR.out, HB.out⟩⟩
          case round =>
            clear HST HR HB HH
            obtain ⟨j, s, hj, rfl, rfl, hjf, HT⟩ := hrel
            by_cases hj8 : j < 8
            · by_cases hrow : 0 < m ∧ j = f
              · obtain ⟨hm0, rfl⟩ := hrow
                have a1 : ∀ W, (Op.stringOp .add s ⟨#[58, 58]⟩).run Tryd.prog W = .ok (.string (S (out6 l j m (j + m)))) W := fun W => by
                  rw [HT.out.out, out6_row hm0]
                  exact add_str W _ [58, 58] (by have := HLEN.out j; omega) (by simp)
                have HT2 : Hid (T6 B w wr l g j m (j + m) (S (out6 l j m (j + m)))) := ⟨rfl, HT.out.row, HT.out.keep⟩
                have hle : j + m ≤ 8 := by have := HFM.out; omega
                have q1 : (0 : Int) < (m : Int) := by omega
                clear hjf
                generalize S (out6 l j m (j + m)) = s2 at *
                go_wp2
                go_roundw
                case rel => exact ⟨j + m, s2, hle, by congr 1, rfl, fun _ => .inr (Nat.le_refl _), HT2⟩
                case measure => simp [intOf]; omega
              · obtain ⟨v, hv⟩ : ∃ v, v = g.getD j 0 := ⟨_, rfl⟩
                have hlj := HGET.out j hj8
                have hvv := HV6.out j hj8
                have hcell : wr.cell? ⟨B, j, none⟩ = some (.int .i64 (v : Int)) := by rw [HT.out.row.cell, ic_get (by rw [HL8.out]; exact hj8), hv]
                rw [← hv] at hlj hvv
                have HNN := Lib.hid (HN.out v (by omega))
                have hvl := nm_len (b := 16) (by omega) 3 v (by omega)
                have hsl := HLEN.out j
                have hso := HT.out.out
                have nxt : ∀ w2, Below wr.heap.size wr w2 → T6 B w w2 l g f m (j + 1) (S (out6 l f m (j + 1))) := fun w2 hb2 => ⟨rfl, HT.out.row.below hb2 HT.out.row.lt, HT.out.keep.trans (hb2.mono HT.out.keep.size)⟩
                have hsep : (0 < j ∧ (m = 0 ∨ j ≠ f + m) ∧ out6 l f m (j + 1) = (out6 l f m j ++ [58]) ++ nm 16 v) ∨ ((j = 0 ∨ (0 < m ∧ j = f + m)) ∧ out6 l f m (j + 1) = out6 l f m j ++ nm 16 v) := by
                  by_cases hbf : m = 0 ∨ j < f
                  · have := out6_before hlj hbf
                    by_cases hj0 : j = 0
                    · exact .inr ⟨.inl hj0, by rw [this, if_pos hj0, List.nil_append]⟩
                    · exact .inl ⟨by omega, by omega, by rw [this, if_neg hj0, List.append_assoc]⟩
                  · have hbe : f + m ≤ j := by have := hjf (by omega); omega
                    have := out6_behind hlj (by omega) hbe
                    by_cases hj0 : j = f + m
                    · exact .inr ⟨.inr ⟨by omega, hj0⟩, by rw [this, if_pos hj0, List.nil_append]⟩
                    · exact .inl ⟨by omega, by omega, by rw [this, if_neg hj0, List.append_assoc]⟩
                have HNXT := Lib.hid nxt
                have hnr : ¬ ((0 : Int) < (m : Int) ∧ (j : Int) = (f : Int)) := by omega
                have HJN : Hid (0 < m → j + 1 ≤ f ∨ f + m ≤ j + 1) := fun hm0 => by have := hjf hm0; omega
                clear nxt hv hlj hvv hjf hrow
                rcases hsep with ⟨hj0, hmm, hout⟩ | ⟨hmm, hout⟩
                · have a0 : ∀ W, (Op.stringOp .add s ⟨#[58]⟩).run Tryd.prog W = .ok (.string (S (out6 l f m j ++ [58]))) W := fun W => by
                    rw [hso]; exact add_str W _ [58] (by omega) (by simp)
                  have a1 : ∀ W, (Op.stringOp .add (S (out6 l f m j ++ [58])) (S (nm 16 v))).run Tryd.prog W = .ok (.string (S (out6 l f m (j + 1)))) W := fun W => by
                    rw [hout]; exact add_str W _ _ (by rw [List.length_append, List.length_cons, List.length_nil]; omega) (by omega)
                  generalize S (out6 l f m j ++ [58]) = s1 at *
                  generalize S (nm 16 v) = sx at *
                  generalize S (out6 l f m (j + 1)) = s2 at *
                  have q0 : (0 : Int) < (j : Int) := by omega
                  clear hso hout hsl hvl
                  rcases Nat.eq_zero_or_pos m with hm0 | hm0
                  · have q1 : ¬ (0 : Int) < (m : Int) := by omega
                    have q2 : ((m : Int) == 0) = true := beq_iff_eq.2 (by omega)
                    clear hmm hnr hm0
                    go_wp2_with fail
                    refine (HNN.out _).mono ?_
                    rintro e w2 ⟨rfl, hb2⟩
                    have HT2 := Lib.hid (HNXT.out w2 hb2)
                    clear hb2 hcell
                    go_wp2
                    go_roundw
                    case rel => exact ⟨j + 1, s2, by omega, by go_num, rfl, HJN.out, HT2⟩
                    case measure => simp [intOf]; omega
                  · have q1 : (0 : Int) < (m : Int) := by omega
                    have q2 : ((m : Int) == 0) = false := beq_eq_false_iff_ne.2 (by omega)
                    have q3 : ((j : Int) == (f : Int)) = false := beq_eq_false_iff_ne.2 (by omega)
                    have q4 : ((j : Int) != (f : Int) + (m : Int)) = true := bne_iff_ne.2 (by omega)
                    clear hmm hnr
                    go_wp2_with fail
                    refine (HNN.out _).mono ?_
                    rintro e w2 ⟨rfl, hb2⟩
                    have HT2 := Lib.hid (HNXT.out w2 hb2)
                    clear hb2 hcell
                    go_wp2
                    go_roundw
                    case rel => exact ⟨j + 1, s2, by omega, by go_num, rfl, HJN.out, HT2⟩
                    case measure => simp [intOf]; omega
                · have a1 : ∀ W, (Op.stringOp .add s (S (nm 16 v))).run Tryd.prog W = .ok (.string (S (out6 l f m (j + 1)))) W := fun W => by
                    rw [hout, hso]; exact add_str W _ _ (by omega) (by omega)
                  generalize S (nm 16 v) = sx at *
                  generalize S (out6 l f m (j + 1)) = s2 at *
                  clear hso hout hsl hvl
                  rcases Nat.eq_zero_or_pos j with hj0 | hj0
                  · subst hj0
                    rcases Nat.eq_zero_or_pos m with hm0 | hm0
                    · have q1 : ¬ (0 : Int) < (m : Int) := by omega
                      clear hmm hnr hm0
                      go_wp2_with fail
                      refine (HNN.out _).mono ?_
                      rintro e w2 ⟨rfl, hb2⟩
                      have HT2 := Lib.hid (HNXT.out w2 hb2)
                      clear hb2 hcell
                      go_wp2
                      go_roundw
                      case rel => exact ⟨1, s2, by omega, by go_num, rfl, HJN.out, HT2⟩
                      case measure => simp [intOf]
                    · have q1 : (0 : Int) < (m : Int) := by omega
                      have q3 : ((0 : Int) == (f : Int)) = false := beq_eq_false_iff_ne.2 (by omega)
                      clear hmm hnr
                      go_wp2_with fail
                      refine (HNN.out _).mono ?_
                      rintro e w2 ⟨rfl, hb2⟩
                      have HT2 := Lib.hid (HNXT.out w2 hb2)
                      clear hb2 hcell
                      go_wp2
                      go_roundw
                      case rel => exact ⟨1, s2, by omega, by go_num, rfl, HJN.out, HT2⟩
                      case measure => simp [intOf]
                  · have hmm2 : 0 < m ∧ j = f + m := by omega
                    have q0 : (0 : Int) < (j : Int) := by omega
                    have q1 : (0 : Int) < (m : Int) := by omega
                    have q2 : ((m : Int) == 0) = false := beq_eq_false_iff_ne.2 (by omega)
                    have q3 : ((j : Int) == (f : Int)) = false := beq_eq_false_iff_ne.2 (by omega)
                    have q4 : ((j : Int) != (f : Int) + (m : Int)) = false := bne_eq_false_iff_eq.2 (by omega)
                    clear hmm hnr hmm2
                    go_wp2_with fail
                    refine (HNN.out _).mono ?_
                    rintro e w2 ⟨rfl, hb2⟩
                    have HT2 := Lib.hid (HNXT.out w2 hb2)
                    clear hb2 hcell
                    go_wp2
                    go_roundw
                    case rel => exact ⟨j + 1, s2, by omega, by go_num, rfl, HJN.out, HT2⟩
                    case measure => simp [intOf]; omega
            · have hj88 : j = 8 := by omega
              rw [hj88] at HT
              have HF := Lib.hid (show s = S (tx6 (g.map (nm 16)) (bst g 8).1 (bst g 8).2) by rw [HT.out.out, HEND.out])
              clear hj88
              go_wp2
              go_ret
              exact ⟨by rw [← HF.out]; rfl, HT.out.keep⟩

end Go.Proofs.YtpllhnknejceiaaDoor.hw
