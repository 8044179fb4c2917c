/-
  Given for the seat's laws: the walk of AsciiLines. No condition but that MaxLen's cell holds some int.
-/
import Derived.Test.YtliajejgkinkjaaAwake
import Derived.Test.YtliajejgkinkjaaAppend
import Derived.Test.YtliajejgkinkjaaLinesPure
import Derived.Lib.AppendStr
import Derived.Deep.LoopGhost
import Derived.Deep.CutBlock
import Derived.Deep.DeepCutAuto
import Derived.Deep.QuietTactic
import Derived.BigQuiet
namespace Go.Proofs.Ytliajejgkinkjaa.lines
open Go.RowKit mem reader plain awake
set_option linter.unusedVariables false

/-- strings as they lie in memory -/
def StrsAt (w : World) (ok : Nat → Prop) (A : Option Addr) (ss : List ByteArray) : Prop :=
  0 < ss.length → ∃ g off, A = some ⟨g, off, none⟩ ∧ ok g ∧ ∀ (j : Nat) (s : ByteArray), ss[j]? = some s → w.cell? ⟨g, off + j, none⟩ = some (.string s)
theorem StrsAt.keep {w w' : World} {ok : Nat → Prop} {A : Option Addr} {ss : List ByteArray} (h : StrsAt w ok A ss) (hk : ∀ g, ok g → w'.heap[g]? = w.heap[g]?) : StrsAt w' ok A ss := fun hp => by
  obtain ⟨g, off, e, ho, hc⟩ := h hp
  exact ⟨g, off, e, ho, fun j z hz => (World.cell?_of_block (hk g ho)).trans (hc j z hz)⟩

theorem strCells_ints (s : ByteArray) : Lib.strCells s = B8 (ints s) := by
  unfold Lib.strCells B8 ints
  rw [List.map_map]
  rfl

/-- what holds between two rounds of the first loop -/
structure Acc (w wx : World) (v : Value) (pre : List ByteArray) : Prop where
  own : wx.ownsRow w.heap.size 5 1 v (enc pre).length (B8 (enc pre))
  below : Below w.heap.size w wx
  good : ∀ s ∈ pre, s.size ≤ 100 ∧ noEnd s

theorem own_ge {w : World} {B : Nat} {e : TypeId} {v : Value} {n : Nat} {xs : List Value} (h : w.ownsRow B e 1 v n xs) {j : Nat} (e' : v.ownBlock = some j) : B ≤ j := (own_lt h e').1

theorem acc_next {w wx w1 w2 : World} {v v1 v2 : Value} {pre : List ByteArray} {s : ByteArray} (h : Acc w wx v pre) (hs : s.size ≤ 100) (hn : noEnd s)
    (h1 : w1.ownsRow w.heap.size 5 1 v1 ((enc pre).length + s.size) (B8 (enc pre) ++ Lib.strCells s)) (g1 : wx.grownBy w1 v.ownBlock)
    (h2 : w2.ownsRow w.heap.size 5 1 v2 ((enc pre).length + s.size + 2) (B8 (enc pre ++ ints s ++ [13, 10]))) (g2 : (w1.alloc (.cells #[.int .u8 13, .int .u8 10] 5)).grownBy w2 v1.ownBlock) : Acc w w2 v2 (pre ++ [s]) := by
  have e1 : enc (pre ++ [s]) = enc pre ++ ints s ++ [13, 10] := by rw [enc_snoc, List.append_assoc]
  have e2 : (enc (pre ++ [s])).length = (enc pre).length + s.size + 2 := by
    rw [e1]
    simp only [List.length_append, ints_length, List.length_cons, List.length_nil]
  have b1 : Below w.heap.size w w1 := h.below.grown g1 h.below.size (fun g e => own_ge h.own e)
  refine ⟨by rw [e2, e1]; exact h2, (b1.alloc b1.size _).grown g2 (b1.alloc b1.size _).size (fun g e => own_ge h1 e), fun x hx => ?_⟩
  rcases List.mem_append.1 hx with hx | hx
  · exact h.good x hx
  · obtain rfl : x = s := by simpa using hx
    exact ⟨hs, hn⟩

theorem acc_still {w wx wy : World} {v : Value} {pre : List ByteArray} (h : Acc w wx v pre) (hs : Still wx wy) : Acc w wy v pre :=
  ⟨own_same h.own (fun g _ => by rw [hs.heap]), h.below.trans ((hs.below _).mono (Nat.le_refl _)), h.good⟩

theorem last_run {s : ByteArray} (h : 0 < s.size) {z : Int} (hz : (s[s.size - 1].toNat : Int) = z) (W : World) : (Instr.index 9 (.string s) (.int .i64 ((s.size : Int) - 1))).run Try.prog W = .ok (.int .u8 z) W := by
  rw [run_index_string (P := Try.prog) W 9 s .i64 ((s.size : Int) - 1) Try.underlying9, dif_pos (by omega)]
  have e : ((s.size : Int) - 1).toNat = s.size - 1 := by omega
  subst hz
  simp only [e]

/-- the two appends of a round: what they leave -/
theorem append_crlf {w w1 : World} {v1 : Value} {pre : List ByteArray} {s : ByteArray} (hl : (enc pre).length ≤ 2040) (hs : s.size ≤ 100) (hb : w.heap.size ≤ w1.heap.size)
    (h1 : w1.ownsRow w.heap.size 5 1 v1 ((enc pre).length + s.size) (B8 (enc pre) ++ Lib.strCells s)) :
    ∃ A2 c2 w2, (Builtin.append_ #[25, 25] 25 #[v1, .slice (some ⟨w1.heap.size, 0, none⟩) 2 2]).run Try.prog (w1.alloc (.cells #[.int .u8 13, .int .u8 10] 5)) = .ok (.slice A2 ((enc pre).length + s.size + 2) c2) w2 ∧
      w2.ownsRow w.heap.size 5 1 (.slice A2 ((enc pre).length + s.size + 2) c2) ((enc pre).length + s.size + 2) (B8 (enc pre ++ ints s ++ [13, 10])) ∧ (w1.alloc (.cells #[.int .u8 13, .int .u8 10] 5)).grownBy w2 v1.ownBlock := by
  have h2 : w1.ownsRow w.heap.size 5 1 v1 ((enc pre).length + s.size) (B8 (enc pre ++ ints s)) := by
    have e : B8 (enc pre ++ ints s) = B8 (enc pre) ++ Lib.strCells s := by rw [strCells_ints]; simp [B8]
    rw [e]
    exact h1
  have h3 := own_same (w' := w1.alloc (.cells #[.int .u8 13, .int .u8 10] 5)) h2 (fun g hg => Below.heap_alloc _ _ _ (own_lt h2 hg).2)
  obtain ⟨A2, c2, w2, happ, ho, hg, _⟩ := append_at h3 (src_lit w1 [13, 10] (0, 0) (by decide) (by decide)) (by simp; omega) (by simp; omega)
  exact ⟨A2, c2, w2, happ, ho, hg⟩

theorem acc_len {w wx : World} {v : Value} {pre : List ByteArray} (h : Acc w wx v pre) (hp : pre.length ≤ 20) : (enc pre).length ≤ 2040 := by
  have := enc_len pre (fun s hs => (h.good s hs).1)
  omega

theorem most_rng (n : Int) : 0 ≤ wrap64 ((IntKind.u64.wrap n).tmod 120) ∧ wrap64 ((IntKind.u64.wrap n).tmod 120) ≤ 119 := by
  rw [IntKind.wrap_u64]
  have h : 0 ≤ n % 18446744073709551616 := by omega
  generalize n % 18446744073709551616 = x at *
  rw [Int.tmod_eq_emod_of_nonneg h]
  unfold wrap64
  omega

/-- what holds between two rounds of the second loop -/
structure Rd (w wx : World) (B r : Nat) (A : Option Addr) (n c : Nat) (ss : List ByteArray) (j : Nat) : Prop where
  has : Has wx B r A n c (enc ss) (enc (ss.take j)).length
  below : Below w.heap.size w wx
  base : w.heap.size ≤ r

theorem rd_of {w wx wy : World} {B r : Nat} {A : Option Addr} {n c : Nat} {ss : List ByteArray} {j k : Nat} (h : Rd w wx B r A n c ss j) (hl : reader.Left wx wy B r A n c (enc ss) (enc (ss.take k)).length) : Rd w wy B r A n c ss k :=
  ⟨hl.has, h.below.trans (hl.keep.below h.below.size (fun g hg e => by have := h.base; omega)), h.base⟩
theorem left_below {w wx wy : World} {B r : Nat} {A : Option Addr} {n c k : Nat} {ss : List ByteArray} {j : Nat} {xs : List Int} (h : Rd w wx B r A n c ss j) (hl : reader.Left wx wy B r A n c xs k) : Below w.heap.size w wy :=
  h.below.trans (hl.keep.below h.below.size (fun g hg e => by have := h.base; omega))

set_option maxHeartbeats 400000 in
theorem lines_out (A : Option Addr) (l c : Nat) (n : Int) (w : World) (hm : Max w) (hs : 20 < l) : Calls Try.prog 6 #[.slice A l c, .int .i64 n] w fun e w' => e = .returned (.bool true) ∧ Below w.heap.size w w' := by
  have HA := Lib.hid (awake_any w hm)
  clear hm
  go_enter Try.func6, Try.ntmps6
  go_wp2_with fail
  refine HA.out.mono ?_
  rintro e w1 ⟨rfl, h1⟩
  go_wp2
  go_ret
  exact ⟨rfl, h1⟩

set_option maxRecDepth 100000 in
set_option maxHeartbeats 4000000 in
theorem lines_in (A : Option Addr) (c : Nat) (ss : List ByteArray) (n : Int) (w : World) (hm : Max w) (hs : ss.length ≤ 20) (hst : StrsAt w (fun g => g < w.heap.size) A ss) :
    Calls Try.prog 6 #[.slice A ss.length c, .int .i64 n] w fun e w' => e = .returned (.bool true) ∧ Below w.heap.size w w' := by
  obtain ⟨i0, hi, hz0, hz1, hz2⟩ := info_parts (show (Try.prog.info? 5).map (fun i => (i.zero, i.size, i.bytes)) = some (some (.int .u8 0), 1, 1) by kernel_rfl)
  obtain ⟨N, hN⟩ : ∃ N, N = ss.length := ⟨_, rfl⟩
  rw [← hN] at hs ⊢
  have HN := Lib.hid hN
  have HA := Lib.hid (awake_any w hm)
  have HM := Lib.hid hm
  have HST := Lib.hid hst
  clear hm hst hN
  go_enter Try.func6, Try.ntmps6
  go_wp2_with fail
  refine HA.out.mono ?_
  rintro e w1 ⟨rfl, b1⟩
  have H0 := Lib.hid (show Acc w w1 (.slice none 0 0) (ss.take 0) from ⟨own_none _ _ _, b1, fun s hs => by simp at hs⟩)
  clear b1 HA
  go_wp2_with fail
  go_loopg [5, 6] N (fun gh s5 s6 wx => ∃ i : Nat, i + gh = N ∧ s6 = .int .i64 (i : Int) ∧ Hid (Acc w wx s5 (ss.take i)))
  case atStart => exact ⟨0, by omega, rfl, H0⟩
  case round =>
    clear H0
    obtain ⟨i, hig, rfl, HR⟩ := hrel
    by_cases hlt : i < N
    · obtain ⟨s, hss⟩ : ∃ s, ss[i]? = some s := ⟨_, List.getElem?_eq_getElem (by have := HN.out; omega)⟩
      obtain ⟨g, off, rfl, hgl, hcs⟩ := HST.out (by have := HN.out; omega)
      have hc : wr.cell? ⟨g, off + i, none⟩ = some (.string s) := (World.cell?_of_block (HR.out.below.block g hgl)).trans (hcs i s hss)
      have HSS := Lib.hid hss
      clear hss hcs
      have hil : (i : Int) < (N : Int) := by omega
      by_cases hbig : 100 < s.size
      · go_wp2
        go_ret
        exact ⟨rfl, HR.out.below⟩
      · go_wp2_with fail
        generalize wr = wo at *
        go_loopg [7] s.size (fun g7 s7 wy => ∃ k : Nat, k + g7 = s.size ∧ s7 = .int .i64 (k : Int) ∧ wo = wy ∧ Hid (∀ j, (h1 : j + 1 < s.size) → j < k → ¬ ((s[j].toNat : Int) = 13 ∧ (s[j + 1].toNat : Int) = 10)))
        case atStart => exact ⟨0, by omega, rfl, rfl, Lib.hid (fun j _ hj => absurd hj (by omega))⟩
        case round =>
          obtain ⟨k, hkg, rfl, rfl, HE⟩ := hrel
          by_cases h1 : k + 1 < s.size
          · obtain ⟨x, hx⟩ : ∃ x : Int, (s[k].toNat : Int) = x := ⟨_, rfl⟩
            obtain ⟨y, hy⟩ : ∃ y : Int, (s[k + 1].toNat : Int) = y := ⟨_, rfl⟩
            have hk1 : (k : Int) + 1 < (s.size : Int) := by omega
            by_cases h13 : x = 13
            · by_cases h10 : y = 10
              · subst h13 h10
                go_wp2
                go_ret
                exact ⟨rfl, HR.out.below⟩
              · have HE2 := Lib.hid (show ∀ j, (h1 : j + 1 < s.size) → j < k + 1 → ¬ ((s[j].toNat : Int) = 13 ∧ (s[j + 1].toNat : Int) = 10) from fun j hj hjk he => by
                  by_cases e : j = k
                  · subst e
                    exact h10 (by rw [← hy]; exact he.2)
                  · exact HE.out j hj (by omega) he)
                have hy10 : (y == 10) = false := beq_eq_false_iff_ne.2 h10
                have hx13 : (x == 13) = true := beq_iff_eq.2 h13
                clear h13 h10
                go_wp2
                go_roundg (s.size - (k + 1))
                case measure => omega
                case rel => exact ⟨k + 1, by omega, by go_num, rfl, HE2⟩
            · have HE2 := Lib.hid (show ∀ j, (h1 : j + 1 < s.size) → j < k + 1 → ¬ ((s[j].toNat : Int) = 13 ∧ (s[j + 1].toNat : Int) = 10) from fun j hj hjk he => by
                by_cases e : j = k
                · subst e
                  exact h13 (by rw [← hx]; exact he.1)
                · exact HE.out j hj (by omega) he)
              have hx13 : (x == 13) = false := beq_eq_false_iff_ne.2 h13
              clear h13
              go_wp2
              go_roundg (s.size - (k + 1))
              case measure => omega
              case rel => exact ⟨k + 1, by omega, by go_num, rfl, HE2⟩
          · have HNE := Lib.hid (noEnd_of (s := s) (fun j hj => HE.out j hj (by omega)))
            have hk1 : ¬ (k : Int) + 1 < (s.size : Int) := by omega
            clear HE
            go_wp2_with fail
            by_cases hz : s.size = 0
            · have hd0 : decide ((0 : Int) < (s.size : Int)) = false := decide_eq_false (by omega)
              have hd1 : decide (0 < s.size) = false := decide_eq_false (by omega)
              clear hz
              go_quiet (fail)
              generalize hW : World.drewN wo _ = wp at *
              have hstl : Still wo wp := ⟨_, hW.symm⟩
              have HRW := Lib.hid (acc_still HR.out hstl)
              have hcw : wp.cell? ⟨g, off + i, none⟩ = some (.string s) := (hstl.cell _).trans hc
              clear hW hstl hc HR
              go_wp2_with (at_builtin; refine Lib.wpList_append_own_string _ rfl _ _ 25 9 rfl w.heap.size 5 i0 Try.underlying25 Try.underlying9 hi hz0 hz1 hz2 _ (enc (ss.take i)).length (B8 (enc (ss.take i))) rfl HRW.out.own s rfl ?p1 ?p2 ?p3 ?_)
              case p1 => have := acc_len HRW.out (by simp; omega); unfold maxLen; omega
              case p2 => have := acc_len HRW.out (by simp; omega); omega
              case p3 => exact HRW.out.below.size
              intro v1 wq ho1 hg1 _
              have hacl := acc_len HRW.out (by simp; omega)
              have hwq : w.heap.size ≤ wq.heap.size := Nat.le_trans HRW.out.below.size hg1.size
              obtain ⟨A2, c2, w2, happ, ho2, hg2⟩ := append_crlf hacl (by omega) hwq ho1
              have hnext := acc_next HRW.out (by omega) HNE.out ho1 hg1 ho2 hg2
              have htk : ss.take i ++ [s] = ss.take (i + 1) := by rw [List.take_add_one, HSS.out]; rfl
              rw [htk] at hnext
              have HNX := Lib.hid hnext
              have HAp := Lib.hid happ
              clear ho1 hg1 ho2 hg2 happ hnext htk HRW HNE hacl
              go_wp2_with (at_builtin; refine wpList_append_eq rfl _ _ rfl rfl rfl rfl HAp.out ?_)
              go_roundg (N - (i + 1))
              case measure => omega
              case rel => exact ⟨i + 1, by omega, by go_num, HNX⟩
            · have hsp : 0 < s.size := by omega
              obtain ⟨z, hzz⟩ : ∃ z : Int, (s[s.size - 1].toNat : Int) = z := ⟨_, rfl⟩
              have hidx := fun W => last_run hsp hzz W
              have hd0 : decide ((0 : Int) < (s.size : Int)) = true := decide_eq_true (by omega)
              have hd1 : decide (0 < s.size) = true := decide_eq_true hsp
              clear hz hzz
              by_cases h13 : z = 13
              · have hz13 : (z == 13) = true := beq_iff_eq.2 h13
                clear h13
                go_quiet (fail)
                go_wp2
                go_ret
                exact ⟨rfl, HR.out.below.trans ((Still.below ⟨_, rfl⟩ _).mono (Nat.le_refl _))⟩
              · have hz13 : (z == 13) = false := beq_eq_false_iff_ne.2 h13
                clear h13
                go_quiet (fail)
                generalize hW : World.drewN wo _ = wp at *
                have hstl : Still wo wp := ⟨_, hW.symm⟩
                have HRW := Lib.hid (acc_still HR.out hstl)
                have hcw : wp.cell? ⟨g, off + i, none⟩ = some (.string s) := (hstl.cell _).trans hc
                clear hW hstl hc HR hidx hz13
                go_wp2_with (at_builtin; refine Lib.wpList_append_own_string _ rfl _ _ 25 9 rfl w.heap.size 5 i0 Try.underlying25 Try.underlying9 hi hz0 hz1 hz2 _ (enc (ss.take i)).length (B8 (enc (ss.take i))) rfl HRW.out.own s rfl ?q1 ?q2 ?q3 ?_)
                case q1 => have := acc_len HRW.out (by simp; omega); unfold maxLen; omega
                case q2 => have := acc_len HRW.out (by simp; omega); omega
                case q3 => exact HRW.out.below.size
                intro v1 wq ho1 hg1 _
                have hacl := acc_len HRW.out (by simp; omega)
                have hwq : w.heap.size ≤ wq.heap.size := Nat.le_trans HRW.out.below.size hg1.size
                obtain ⟨A2, c2, w2, happ, ho2, hg2⟩ := append_crlf hacl (by omega) hwq ho1
                have hnext := acc_next HRW.out (by omega) HNE.out ho1 hg1 ho2 hg2
                have htk : ss.take i ++ [s] = ss.take (i + 1) := by rw [List.take_add_one, HSS.out]; rfl
                rw [htk] at hnext
                have HNX := Lib.hid hnext
                have HAq := Lib.hid happ
                clear ho1 hg1 ho2 hg2 happ hnext htk HRW HNE hacl
                go_wp2_with (at_builtin; refine wpList_append_eq rfl _ _ rfl rfl rfl rfl HAq.out ?_)
                go_roundg (N - (i + 1))
                case measure => omega
                case rel => exact ⟨i + 1, by omega, by go_num, HNX⟩
    · have hiN : i = N := by omega
      subst hiN
      have hacc := HR.out
      rw [List.take_of_length_le (by rw [← HN.out]; exact Nat.le_refl _)] at hacc
      obtain ⟨A5, c5, rfl⟩ := own_form hacc.own
      have hsrc := src_of_own hacc.own (enc_rng ss)
      have hl5 := acc_len hacc (by rw [← HN.out]; exact hs)
      have hnew := new_has hsrc (by omega) (HM.out.keep (hacc.below.block 0 HM.out.lt))
      have HGOOD := Lib.hid hacc.good
      have HB := Lib.hid hacc.below
      have HNEW := Lib.hid hnew
      clear hacc HR hsrc hnew
      obtain ⟨hq0, hq1⟩ := most_rng n
      go_upto_region 21 with fail
      generalize wrap64 ((IntKind.u64.wrap n).tmod 120) = q at *
      go_wp2_with fail
      refine HNEW.out.mono ?_
      rintro e w6 ⟨r, A6, c6, rfl, hh6, b6⟩
      have hrd : Rd w w6 wr.heap.size r A6 (enc ss).length c6 ss 0 := ⟨by rw [List.take_zero]; exact hh6, HB.out.trans (b6.mono HB.out.size), Nat.le_trans HB.out.size hh6.base.2⟩
      have HRD := Lib.hid hrd
      clear hrd hh6 b6 HB HNEW
      generalize wr.heap.size = B6 at *
      go_wp2_with fail
      go_loopg [9] i (fun gh s9 wx => ∃ j : Nat, j + gh = i ∧ s9 = .int .i64 (j : Int) ∧ Hid (Rd w wx B6 r A6 (enc ss).length c6 ss j))
      case atStart => exact ⟨0, by omega, rfl, HRD⟩
      case round =>
        clear HRD
        obtain ⟨j, hjg, rfl, HR⟩ := hrel
        by_cases hjl : j < i
        · obtain ⟨s, hss⟩ : ∃ s, ss[j]? = some s := ⟨_, List.getElem?_eq_getElem (by have := HN.out; omega)⟩
          obtain ⟨g, off, rfl, hgl, hcs⟩ := HST.out (by have := HN.out; omega)
          have HCS := Lib.hid (fun (W : World) (hW : Below w.heap.size w W) => (show W.cell? ⟨g, off + j, none⟩ = some (.string s) from (World.cell?_of_block (hW.block g hgl)).trans (hcs j s hss)))
          have hgd := HGOOD.out s (List.mem_of_getElem? hss)
          have hat := enc_at hss
          have hnx := enc_next hss
          have hdr := enc_drop ss j
          have hole : (enc (ss.take j)).length ≤ (enc ss).length := HR.out.has.le
          obtain ⟨o, ho⟩ : ∃ o, o = (enc (ss.take j)).length := ⟨_, rfl⟩
          rw [← ho] at hdr hnx hole
          have hl100 := hgd.1
          have HO := Lib.hid ho
          have HNX := Lib.hid hnx
          have HNE := Lib.hid hgd.2
          have HAT := Lib.hid (hdr.trans hat)
          clear hss hcs hgd hat hnx hdr ho
          have ha1 := at_has wr HR.out.has
          rw [← HO.out] at ha1
          have HA1 := Lib.hid ha1
          clear ha1
          have hjil : (j : Int) < (i : Int) := by omega
          by_cases hlong : q < (s.size : Int)
          · have hle := line_err HR.out.has q hq0 0 6 (by rw [← HO.out, HAT.out]; exact lineF_long HNE.out _ hlong) (.inr rfl)
            have HLE := Lib.hid hle
            clear hle
            go_wp2_with fail
            refine HA1.out.mono ?_
            rintro e w' ⟨rfl, rfl⟩
            go_wp2_with fail
            refine HLE.out.mono ?_
            rintro e w7 ⟨rfl, hlf⟩
            have hb7 := left_below HR.out hlf
            have hc7 := HCS.out _ hb7
            have ha7 := at_has w7 hlf.has
            rw [← HO.out] at ha7
            have HA7 := Lib.hid ha7
            have HB7 := Lib.hid hb7
            clear hb7 ha7 hlf HLE HA1 HR
            go_wp2_with fail
            refine HA7.out.mono ?_
            rintro e w' ⟨rfl, rfl⟩
            go_wp2
            go_ret
            exact ⟨by simp, HB7.out⟩
          · have hlf0 : lineF ((enc ss).drop (enc (ss.take j)).length) q = ((s.size : Int), 0) := by rw [← HO.out, HAT.out]; exact lineF_here HNE.out _ hlong
            have hle := line_ok HR.out.has q hq0 s.size hlf0
            have hstr : strOfNums (((enc ss).drop (enc (ss.take j)).length).take s.size) = s := by
              rw [← HO.out, HAT.out, List.take_append_of_le_length (by rw [ints_length]; exact Nat.le_refl _), List.take_of_length_le (by rw [ints_length]; exact Nat.le_refl _), ints_str]
            rw [hstr, ← HO.out, ← HNX.out] at hle
            have HLE := Lib.hid hle
            clear hle hlf0 hstr
            have hself : (s.toList != s.toList) = false := by simp
            go_wp2_with fail
            refine HA1.out.mono ?_
            rintro e w' ⟨rfl, rfl⟩
            go_wp2_with fail
            refine HLE.out.mono ?_
            rintro e w7 ⟨rfl, hlf⟩
            have hrd7 := rd_of HR.out hlf
            have hc7 := HCS.out _ hrd7.below
            have ha7 := at_has w7 hrd7.has
            have hov : (((enc (ss.take (j + 1))).length : Nat) : Int) = (o : Int) + (s.size : Int) + 2 := by rw [HNX.out]; omega
            rw [hov] at ha7
            have hxx : ((o : Int) + (s.size : Int) + 2 != (o : Int) + (s.size : Int) + 2) = false := by simp
            have HA7 := Lib.hid ha7
            have HR7 := Lib.hid hrd7
            have hob : o ≤ 2040 := by omega
            clear hrd7 ha7 hlf HLE HA1 HR hov
            go_wp2_with fail
            refine HA7.out.mono ?_
            rintro e w' ⟨rfl, rfl⟩
            go_wp2
            go_roundg (i - (j + 1))
            case measure => omega
            case rel => exact ⟨j + 1, by omega, by go_num, HR7⟩
        · have hji : j = i := by omega
          subst hji
          have hr := HR.out
          have htk : ss.take j = ss := List.take_of_length_le (by rw [← HN.out]; exact Nat.le_refl _)
          have hhas := hr.has
          rw [htk] at hhas
          have hle := line_err hhas q hq0 0 5 (by rw [List.drop_length]; exact lineF_nil hq0) (.inl rfl)
          have HLE := Lib.hid hle
          clear hle hhas hr htk
          go_wp2_with fail
          refine HLE.out.mono ?_
          rintro e w7 ⟨rfl, hlf⟩
          have hb7 := left_below HR.out hlf
          have hl7 := left_has w7 hlf.has
          rw [Int.sub_self] at hl7
          have HL7 := Lib.hid hl7
          have HB7 := Lib.hid hb7
          clear hb7 hl7 hlf HLE HR
          go_wp2_with fail
          refine HL7.out.mono ?_
          rintro e w8 ⟨rfl, hst8⟩
          have HS8 := Lib.hid hst8
          clear hst8
          go_wp2
          go_ret
          exact ⟨rfl, HB7.out.trans ((Still.below HS8.out _).mono HB7.out.size)⟩

theorem walk (A : Option Addr) (c : Nat) (ss : List ByteArray) (n : Int) (w : World) (hm : Max w) (hst : StrsAt w (fun g => g < w.heap.size) A ss) :
    Calls Try.prog 6 #[.slice A ss.length c, .int .i64 n] w fun e w' => e = .returned (.bool true) ∧ Below w.heap.size w w' := by
  by_cases hs : 20 < ss.length
  · exact lines_out A ss.length c n w hm hs
  · exact lines_in A c ss n w hm (by omega) hst

end Go.Proofs.Ytliajejgkinkjaa.lines
