/-
  Given for the seat's laws: the first record with a parent: parentOf, find. No condition but those of the theorems.
-/
import Derived.Test.YtpidjekabnnmcaaHBegin
import Derived.Laws.StructEq
namespace Go.Proofs.Ytpidjekabnnmcaa.hp
open Go.RowKit mem find pb
set_option linter.unusedVariables false

set_option maxHeartbeats 1000000 in
theorem parentOf_any {w : World} {b : Nat} {x : RD} (hl : Lies w b 79 (rcs x)) : Calls Try.prog 47 #[bp b] w fun e w' => e = .returned (.agg #[.string x.pa.nm, .int .u8 x.pa.kd, .string x.pa.tx, .int .i64 x.pa.po, .int .u8 x.pa.pr]) ∧ Below w.heap.size w w' := by
  have hlt := hl.lt
  have c1 := hl.cell 1
  have c2 := hl.cell 2
  have c3 := hl.cell 3
  have c4 := hl.cell 4
  have c5 := hl.cell 5
  simp at c1 c2 c3 c4 c5
  clear hl
  go_enter Try.func47, Try.ntmps47
  go_wp2_with fail
  refine bodyPost_ret (v := .agg (pcs x.pa)) (by simp [results, Try.results47, go_sem]) rfl ⟨rfl, ?_⟩
  repeat (first | exact (Below.refl _ _).alloc (Nat.le_refl _) _ | refine Below.setCell ?_ (by simp) _ | refine Below.drew ?_)
theorem ba_iff {a b : ByteArray} : a.toList = b.toList ↔ a = b := by
  constructor
  · intro h
    rw [ByteArray.toList_eq, ByteArray.toList_eq] at h
    exact ByteArray.ext (Array.toList_inj.1 h)
  · intro h; rw [h]
theorem pk_iff (a b : PK) : a = b ↔ a.nm.toList = b.nm.toList ∧ a.kd = b.kd ∧ a.tx.toList = b.tx.toList ∧ a.po = b.po ∧ a.pr = b.pr := by
  rw [ba_iff, ba_iff]
  obtain ⟨a1, a2, a3, a4, a5⟩ := a
  obtain ⟨b1, b2, b3, b4, b5⟩ := b
  simp
set_option maxHeartbeats 2000000 in
theorem parIs_any {w : World} {b g4 g5 : Nat} {x : RD} {who : PK} (hl : Lies w b 79 (rcs x)) (h4 : w.cell? ⟨g4, 0, none⟩ = some (.func (.func 47) #[] #[])) (h5 : Lies w g5 77 (pcs who)) :
    Calls Try.prog 63 #[bp b, bp g4, bp g5] w fun e w' => e = .returned (.bool (decide (x.pa = who))) ∧ Below w.heap.size w w' := by
  have hmix : Try.prog.follows .mixedOrders = true := by kernel_rfl
  have HK := bk.Bx.mk (fun u : qt.Bel w => parentOf_any (hl.below u.b hl.lt))
  have e4 := fun u => qt.bel_cell h4 u
  have d0 := fun u => qt.bel_cell (h5.cell 0) u
  have d1 := fun u => qt.bel_cell (h5.cell 1) u
  have d2 := fun u => qt.bel_cell (h5.cell 2) u
  have d3 := fun u => qt.bel_cell (h5.cell 3) u
  have d4 := fun u => qt.bel_cell (h5.cell 4) u
  simp at d0 d1 d2 d3 d4
  clear hl h4 h5
  obtain ⟨dd, hdd⟩ : ∃ dd, dd = decide (x.pa = who) := ⟨_, rfl⟩
  rw [← hdd]
  rw [show decide (x.pa = who) = decide (x.pa.nm.toList = who.nm.toList ∧ x.pa.kd = who.kd ∧ x.pa.tx.toList = who.tx.toList ∧ x.pa.po = who.po ∧ x.pa.pr = who.pr) from decide_eq_decide.2 (pk_iff _ _)] at hdd
  by_cases q0 : x.pa.nm.toList = who.nm.toList
  · by_cases q1 : x.pa.kd = who.kd
    · by_cases q2 : x.pa.tx.toList = who.tx.toList
      · by_cases q3 : x.pa.po = who.po
        · by_cases q4 : x.pa.pr = who.pr
          · have HD : bk.Bx (dd = true) := ⟨by rw [hdd]; exact decide_eq_true ⟨q0, q1, q2, q3, q4⟩⟩
            clear hdd
            go_enter Try.func63, Try.ntmps63
            go_wp2_with fail
            refine qt.region_bel hmix (by kernel_rfl) ?_
            repeat (go_big_quiet_step (first | (go_at_call 47; exact qt.bel_call' _ (HK.out _))))
            refine wpQuiet_nil ?_
            rintro w2 ⟨u, rfl⟩
            have hu := u.b
            go_wp2_with fail
            go_ret
            exact ⟨by rw [HD.out]; rfl, hu⟩
          · have HD : bk.Bx (dd = false) := ⟨by rw [hdd]; exact decide_eq_false (fun h => q4 h.2.2.2.2)⟩
            clear hdd
            go_enter Try.func63, Try.ntmps63
            go_wp2_with fail
            refine qt.region_bel hmix (by kernel_rfl) ?_
            repeat (go_big_quiet_step (first | (go_at_call 47; exact qt.bel_call' _ (HK.out _))))
            refine wpQuiet_nil ?_
            rintro w2 ⟨u, rfl⟩
            have hu := u.b
            go_wp2_with fail
            go_ret
            exact ⟨by rw [HD.out]; rfl, hu⟩
        · have HD : bk.Bx (dd = false) := ⟨by rw [hdd]; exact decide_eq_false (fun h => q3 h.2.2.2.1)⟩
          clear hdd
          go_enter Try.func63, Try.ntmps63
          go_wp2_with fail
          refine qt.region_bel hmix (by kernel_rfl) ?_
          repeat (go_big_quiet_step (first | (go_at_call 47; exact qt.bel_call' _ (HK.out _))))
          refine wpQuiet_nil ?_
          rintro w2 ⟨u, rfl⟩
          have hu := u.b
          go_wp2_with fail
          go_ret
          exact ⟨by rw [HD.out]; rfl, hu⟩
      · have HD : bk.Bx (dd = false) := ⟨by rw [hdd]; exact decide_eq_false (fun h => q2 h.2.2.1)⟩
        clear hdd
        go_enter Try.func63, Try.ntmps63
        go_wp2_with fail
        refine qt.region_bel hmix (by kernel_rfl) ?_
        repeat (go_big_quiet_step (first | (go_at_call 47; exact qt.bel_call' _ (HK.out _))))
        refine wpQuiet_nil ?_
        rintro w2 ⟨u, rfl⟩
        have hu := u.b
        go_wp2_with fail
        go_ret
        exact ⟨by rw [HD.out]; rfl, hu⟩
    · have HD : bk.Bx (dd = false) := ⟨by rw [hdd]; exact decide_eq_false (fun h => q1 h.2.1)⟩
      clear hdd
      go_enter Try.func63, Try.ntmps63
      go_wp2_with fail
      refine qt.region_bel hmix (by kernel_rfl) ?_
      repeat (go_big_quiet_step (first | (go_at_call 47; exact qt.bel_call' _ (HK.out _))))
      refine wpQuiet_nil ?_
      rintro w2 ⟨u, rfl⟩
      have hu := u.b
      go_wp2_with fail
      go_ret
      exact ⟨by rw [HD.out]; rfl, hu⟩
  · have HD : bk.Bx (dd = false) := ⟨by rw [hdd]; exact decide_eq_false (fun h => q0 h.1)⟩
    clear hdd
    go_enter Try.func63, Try.ntmps63
    go_wp2_with fail
    refine qt.region_bel hmix (by kernel_rfl) ?_
    repeat (go_big_quiet_step (first | (go_at_call 47; exact qt.bel_call' _ (HK.out _))))
    refine wpQuiet_nil ?_
    rintro w2 ⟨u, rfl⟩
    have hu := u.b
    go_wp2_with fail
    go_ret
    exact ⟨by rw [HD.out]; rfl, hu⟩
set_option maxRecDepth 100000 in
set_option maxHeartbeats 2000000 in
theorem index_par {w : World} {A : Option Addr} {c g4 g5 : Nat} {bs : List Nat} (hrow : PRow w A c bs) (hn : bs.length ≤ 1000) (ok : Nat → Bool)
    (HF : ∀ (i b : Nat) (W : World), bs[i]? = some b → Below w.heap.size w W → Calls Try.prog 63 #[bp b, bp g4, bp g5] W fun e w' => e = .returned (.bool (ok i)) ∧ Below W.heap.size W w') :
    Calls Try.prog 55 #[.slice A bs.length c, .func (.func 63) #[] #[bp g4, bp g5]] w fun e w' => e = .returned (.int .i64 (fnd ok bs.length)) ∧ Below w.heap.size w w' := by
  have HH := bk.Bx.mk HF
  have HR := bk.Bx.mk hrow
  have HNN := bk.Bx.mk hn
  clear HF hrow
  obtain ⟨n, hn'⟩ : ∃ n, bs.length = n := ⟨_, rfl⟩
  have HL := bk.Bx.mk hn'
  rw [hn'] at hn ⊢
  clear hn'
  go_enter Try.func55, Try.ntmps55
  go_wp2_with fail
  go_loopw [8] (fun s8 wr => ∃ j : Nat, j ≤ n ∧ s8 = .int .i64 j ∧ bk.Bx (fnd ok j = -1) ∧ bk.Bx (Below w.heap.size w wr)) (fun s8 _ => n - (intOf s8).toNat)
  case atStart => exact ⟨0, by omega, rfl, ⟨rfl⟩, ⟨Below.refl _ _⟩⟩
  case round =>
    obtain ⟨j, hj, rfl, hf, hb⟩ := hrel
    by_cases hjn : j < n
    · obtain ⟨g, hA, hg, _, hc⟩ := HR.out.cell (by rw [HL.out]; omega)
      obtain ⟨b, hbj⟩ : ∃ b, bs[j]? = some b := ⟨_, List.getElem?_eq_getElem (by rw [HL.out]; exact hjn)⟩
      have cj : wr.cell? ⟨g, j, none⟩ = some (bp b) := (hb.out.cell (p := ⟨g, j, none⟩) hg).trans (hc j b hbj)
      have HC := bk.Bx.mk (HH.out j b wr hbj hb.out)
      subst hA
      clear hc hg hbj
      go_wp2_with fail
      refine HC.out.mono ?_
      rintro e w2 ⟨rfl, hb2⟩
      have HB2 := bk.Bx.mk (hb.out.trans (hb2.mono hb.out.size))
      clear hb2 HC
      have hff : fnd ok (j + 1) = if fnd ok j < 0 ∧ ok j = true then (j : Int) else fnd ok j := rfl
      cases hok : ok j with
      | true =>
        have HE : bk.Bx (fnd ok n = (j : Int)) := ⟨by
          refine fnd_first ?_ hok hjn
          exact fnd_none.1 hf.out⟩
        clear hff
        go_wp2_with fail
        go_ret
        exact ⟨by rw [HE.out]; rfl, HB2.out⟩
      | false =>
        have HE : bk.Bx (fnd ok (j + 1) = -1) := ⟨by rw [hff, hok]; simp; exact hf.out⟩
        clear hff
        go_wp2_with fail
        go_roundw
        case rel => exact ⟨j + 1, by omega, by first | rfl | simp, HE, HB2⟩
        case measure => simp [intOf]; omega
    · obtain rfl : j = n := by omega
      go_wp2_with fail
      go_ret
      exact ⟨by rw [hf.out]; rfl, hb.out⟩

theorem findP_row {w : World} {S : Nat → Prop} {A : Option Addr} {c : Nat} {bs : List Nat} {R : List RD} (hrow : PRow w A c bs) (hrec : Recs w S bs R) (hs : R.length ≤ 1000) (who : PK) :
    Calls Try.prog 46 #[.slice A R.length c, .func (.func 47) #[] #[], .agg (pcs who)] w fun e w' => e = .returned (.int .i64 (fnd (fun i => match R[i]? with | some x => decide (x.pa = who) | none => false) R.length)) ∧ Below w.heap.size w w' := by
  have hlen := hrec.len
  obtain ⟨f1, f2, f3⟩ := two_facts w 96 77 #[.func (.func 47) #[] #[]] (pcs who)
  have hrow2 : PRow (two w 96 77 #[.func (.func 47) #[] #[]] (pcs who)) A c bs := hrow.same fun g e => f3.block g (prow_lt hrow e)
  have HI := bk.Bx.mk (index_par (g4 := w.heap.size) (g5 := w.heap.size + 1) hrow2 (by omega) (fun i => match R[i]? with | some x => decide (x.pa = who) | none => false) (fun i b W hb hW => by
    obtain ⟨x, hx⟩ : ∃ x, R[i]? = some x := ⟨_, List.getElem?_eq_getElem (by rw [← hlen]; exact (List.getElem?_eq_some_iff.1 hb).1)⟩
    have hl := hrec.at_ i b x hb hx
    have hl2 := (hl.below f3 hl.lt).below hW (Nat.lt_of_lt_of_le hl.lt f3.size)
    simp only [hx]
    exact parIs_any hl2 ((f1.below hW f1.lt).cell 0) (f2.below hW f2.lt)))
  have HB := bk.Bx.mk f3
  rw [hlen] at HI
  clear hrow2 f1 f2 f3 hlen hrow hrec hs
  generalize fnd (fun i => match R[i]? with | some x => decide (x.pa = who) | none => false) R.length = z at *
  generalize R.length = n at *
  go_enter Try.func46, Try.ntmps46
  go_wp2_with fail
  refine HI.out.mono ?_
  rintro e w2 ⟨rfl, hb⟩
  have hb2 := HB.out.trans (hb.mono HB.out.size)
  clear hb HI
  go_wp2_with fail
  go_ret
  exact ⟨rfl, hb2⟩
end Go.Proofs.Ytpidjekabnnmcaa.hp
