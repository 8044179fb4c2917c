/-
  PROVED HERE: 'Rows.HostShortCardSaid': at every eight groups, widths, and row HostShort returns true: an address of 16 bytes written out in full, each group with any noughts ahead, up to 4 digits, is parsed as it, and so it is with one row of its groups that are 0 written shorter; the input reads afterwards as it read before. Condition: the variables of the library that the row lists (math/bits.deBruijn32tab, math/bits.deBruijn64tab, internal/strconv.uint64pow10, unicode/utf8.acceptRanges, unicode/utf8.first) start as the program's text lays them; the card ties that.
-/
import Derived.Test.YtpllhnknejceiaaGreatDoorHShort
import Derived.Test.YtpllhnknejceiaaGreatDoorHLaidZ
import Derived.Test.YtpllhnknejceiaaGreatDoorCards
import Derived.Test.YtpllhnknejceiaaGreatDoorTie
import Derived.ProofKit
import Derived.OpenShut
import Derived.ChangeOld
import Derived.Carry
import Derived.Lib.SmallJoins
import Derived.ShutString
import Derived.ChangeMaps5
import Derived.JoinedCond
import Derived.SevenTiedAt
namespace Go.Proofs.YtpllhnknejceiaaGreatDoor.hostShort
open Go.ChangeShapes Go.WideShapes Go.ChangeAt Go.RowKit Go.Joins Go.ChangeMaps laid hw mem
set_option linter.unusedVariables false
set_option maxRecDepth 100000

theorem okWide_array8 {t e : TypeId} {W : World} {b0 : Nat} {v : Value} (ht : Tryz.prog.underlying t = some (.array 8 e)) (hc : Tryz.prog.cellsOf t = 8) (h : Value.okWide Tryz.prog W .any b0 t v) : ∃ c0 c1 c2 c3 c4 c5 c6 c7 : Value, v = .agg #[c0, c1, c2, c3, c4, c5, c6, c7] := by
  simp only [Value.okWide, ht] at h
  obtain ⟨cs, h1, h2, _⟩ := h
  rw [hc] at h2
  obtain ⟨l⟩ := cs
  match l, h2, h1 with
  | [c0, c1, c2, c3, c4, c5, c6, c7], _, h1 => exact ⟨c0, c1, c2, c3, c4, c5, c6, c7, h1⟩
theorem open_arr8 {H : Type} {enc : TypeId × Value → H} {W : World} {b0 : Nat} {t e : TypeId} {k : IntKind} {v : Value} {d : DataW H} {ps : List MemPlace} (ht : Tryz.prog.underlying t = some (.array 8 e)) (he : Tryz.prog.underlying e = some (.int k)) (hce : Tryz.prog.cellsOf e = 1) (hc : Tryz.prog.cellsOf t = 8)
    (hv : Value.okWide Tryz.prog W .any b0 t v) (h : DataW.Trod enc Tryz.prog W 0 (fun _ => true) true t v d ps) :
    ∃ a0 a1 a2 a3 a4 a5 a6 a7 : Int, v = .agg #[.int k a0, .int k a1, .int k a2, .int k a3, .int k a4, .int k a5, .int k a6, .int k a7] ∧ ∀ a ∈ [a0, a1, a2, a3, a4, a5, a6, a7], (Lit.int k a).wf = true := by
  obtain ⟨c0, c1, c2, c3, c4, c5, c6, c7, rfl⟩ := okWide_array8 ht hc hv
  obtain ⟨fuel, hf⟩ := h
  obtain ⟨xs, m, _, _, _, hn, hi⟩ := DataW.trod_array ht hf
  rw [hce] at hi
  have each : ∀ (i : Nat) (c : Value), [c0, c1, c2, c3, c4, c5, c6, c7][i]? = some c → ∃ a, c = .int k a ∧ (Lit.int k a).wf = true := fun i c hc => by
    have hi8 : i < 8 := (List.getElem?_eq_some_iff.1 hc).1
    have h1 := hi i hi8
    obtain ⟨x, hx⟩ : ∃ x, xs[i]? = some x := ⟨_, List.getElem?_eq_getElem (by omega)⟩
    rw [hx, Nat.mul_one] at h1
    have h2 : (Value.cells (.agg #[c0, c1, c2, c3, c4, c5, c6, c7])).toList = [c0, c1, c2, c3, c4, c5, c6, c7] := by simp [Value.cells]
    rw [h2] at h1
    have h3 : ([c0, c1, c2, c3, c4, c5, c6, c7].drop i).take 1 = [c] := by
      rw [List.drop_eq_getElem_cons (by simpa using hi8)]
      have : [c0, c1, c2, c3, c4, c5, c6, c7][i]'(by simpa using hi8) = c := (List.getElem?_eq_some_iff.1 hc).2
      rw [this]
      rfl
    rw [h3] at h1
    obtain ⟨a, ea, _, wa⟩ := DataW.trod_int he h1
    exact ⟨a, by simpa using ea, wa⟩
  obtain ⟨a0, rfl, w0⟩ := each 0 c0 rfl
  obtain ⟨a1, rfl, w1⟩ := each 1 c1 rfl
  obtain ⟨a2, rfl, w2⟩ := each 2 c2 rfl
  obtain ⟨a3, rfl, w3⟩ := each 3 c3 rfl
  obtain ⟨a4, rfl, w4⟩ := each 4 c4 rfl
  obtain ⟨a5, rfl, w5⟩ := each 5 c5 rfl
  obtain ⟨a6, rfl, w6⟩ := each 6 c6 rfl
  obtain ⟨a7, rfl, w7⟩ := each 7 c7 rfl
  refine ⟨a0, a1, a2, a3, a4, a5, a6, a7, rfl, fun a ha => ?_⟩
  simp only [List.mem_cons, List.not_mem_nil, or_false] at ha
  rcases ha with rfl | rfl | rfl | rfl | rfl | rfl | rfl | rfl <;> assumption
theorem u16_nat {x : Int} (h : (Lit.int .u16 x).wf = true) : ∃ n : Nat, x = (n : Int) ∧ n < 65536 := by
  have h1 : IntKind.u16.min = 0 := rfl
  have h2 : IntKind.u16.max = 65535 := rfl
  simp only [Lit.wf, Bool.and_eq_true, decide_eq_true_eq] at h
  exact ⟨x.toNat, by omega, by omega⟩
theorem u8_nat {x : Int} (h : (Lit.int .u8 x).wf = true) : ∃ n : Nat, x = (n : Int) ∧ n < 256 := by
  have h1 : IntKind.u8.min = 0 := rfl
  have h2 : IntKind.u8.max = 255 := rfl
  simp only [Lit.wf, Bool.and_eq_true, decide_eq_true_eq] at h
  exact ⟨x.toNat, by omega, by omega⟩
theorem short_any {a0 a1 a2 a3 a4 a5 a6 a7 b0 b1 b2 b3 b4 b5 b6 b7 f m : Int} (ha : ∀ a ∈ [a0, a1, a2, a3, a4, a5, a6, a7], (Lit.int .u16 a).wf = true) (hb : ∀ a ∈ [b0, b1, b2, b3, b4, b5, b6, b7], (Lit.int .u8 a).wf = true) (hf : (Lit.int .u8 f).wf = true) (hm : (Lit.int .u8 m).wf = true) (w : World) (he : Env w) :
    Calls Tryz.prog 7 #[.agg #[.int .u16 a0, .int .u16 a1, .int .u16 a2, .int .u16 a3, .int .u16 a4, .int .u16 a5, .int .u16 a6, .int .u16 a7], .agg #[.int .u8 b0, .int .u8 b1, .int .u8 b2, .int .u8 b3, .int .u8 b4, .int .u8 b5, .int .u8 b6, .int .u8 b7], .int .u8 f, .int .u8 m] w (Gives (.bool true) w) := by
  obtain ⟨g0, rfl, hg0⟩ := u16_nat (ha a0 (by simp))
  obtain ⟨g1, rfl, hg1⟩ := u16_nat (ha a1 (by simp))
  obtain ⟨g2, rfl, hg2⟩ := u16_nat (ha a2 (by simp))
  obtain ⟨g3, rfl, hg3⟩ := u16_nat (ha a3 (by simp))
  obtain ⟨g4, rfl, hg4⟩ := u16_nat (ha a4 (by simp))
  obtain ⟨g5, rfl, hg5⟩ := u16_nat (ha a5 (by simp))
  obtain ⟨g6, rfl, hg6⟩ := u16_nat (ha a6 (by simp))
  obtain ⟨g7, rfl, hg7⟩ := u16_nat (ha a7 (by simp))
  obtain ⟨x0, rfl, hx0⟩ := u8_nat (hb b0 (by simp))
  obtain ⟨x1, rfl, hx1⟩ := u8_nat (hb b1 (by simp))
  obtain ⟨x2, rfl, hx2⟩ := u8_nat (hb b2 (by simp))
  obtain ⟨x3, rfl, hx3⟩ := u8_nat (hb b3 (by simp))
  obtain ⟨x4, rfl, hx4⟩ := u8_nat (hb b4 (by simp))
  obtain ⟨x5, rfl, hx5⟩ := u8_nat (hb b5 (by simp))
  obtain ⟨x6, rfl, hx6⟩ := u8_nat (hb b6 (by simp))
  obtain ⟨x7, rfl, hx7⟩ := u8_nat (hb b7 (by simp))
  obtain ⟨fr, rfl, hfr⟩ := u8_nat hf
  obtain ⟨mn, rfl, hmn⟩ := u8_nat hm
  refine short_at g0 g1 g2 g3 g4 g5 g6 g7 (fun v hv => ?_) x0 x1 x2 x3 x4 x5 x6 x7 (fun v hv => ?_) fr mn hfr hmn w he
  · simp only [List.mem_cons, List.not_mem_nil, or_false] at hv
    rcases hv with rfl | rfl | rfl | rfl | rfl | rfl | rfl | rfl <;> assumption
  · simp only [List.mem_cons, List.not_mem_nil, or_false] at hv
    rcases hv with rfl | rfl | rfl | rfl | rfl | rfl | rfl | rfl <;> assumption

abbrev Sp : OpenSpec := OpenSpec.ofChange Rows.hostShortSpec

theorem witness_row (os : Os) {H : Type} (enc : TypeId × Value → H) :
    Sp.preRow enc Tryz.prog Tryz.f7 Rows.hostShortRow.domain false Rows.hostShortRow.laid ((laidWorld os).forCall (fun _ _ => 0) ⟨#[], #[.agg #[.int .u16 0, .int .u16 0, .int .u16 0, .int .u16 0, .int .u16 0, .int .u16 0, .int .u16 0, .int .u16 0], .agg #[.int .u8 0, .int .u8 0, .int .u8 0, .int .u8 0, .int .u8 0, .int .u8 0, .int .u8 0, .int .u8 0], .int .u8 0, .int .u8 0], []⟩).memory #[.agg #[.int .u16 0, .int .u16 0, .int .u16 0, .int .u16 0, .int .u16 0, .int .u16 0, .int .u16 0, .int .u16 0], .agg #[.int .u8 0, .int .u8 0, .int .u8 0, .int .u8 0, .int .u8 0, .int .u8 0, .int .u8 0, .int .u8 0], .int .u8 0, .int .u8 0] := by
  have hw : (DataW.whole enc Tryz.prog ((laidWorld os).forCall (fun _ _ => 0) ⟨#[], #[.agg #[.int .u16 0, .int .u16 0, .int .u16 0, .int .u16 0, .int .u16 0, .int .u16 0, .int .u16 0, .int .u16 0], .agg #[.int .u8 0, .int .u8 0, .int .u8 0, .int .u8 0, .int .u8 0, .int .u8 0, .int .u8 0, .int .u8 0], .int .u8 0, .int .u8 0], []⟩).memory Tryz.f7.params.toList Sp.vars false (#[.agg #[.int .u16 0, .int .u16 0, .int .u16 0, .int .u16 0, .int .u16 0, .int .u16 0, .int .u16 0, .int .u16 0], .agg #[.int .u8 0, .int .u8 0, .int .u8 0, .int .u8 0, .int .u8 0, .int .u8 0, .int .u8 0, .int .u8 0], .int .u8 0, .int .u8 0] : Array Value).toList 8).map (fun x => (x.1, x.2.1)) =
      some ([.agg [.lit (.int .u16 0), .lit (.int .u16 0), .lit (.int .u16 0), .lit (.int .u16 0), .lit (.int .u16 0), .lit (.int .u16 0), .lit (.int .u16 0), .lit (.int .u16 0)], .agg [.lit (.int .u8 0), .lit (.int .u8 0), .lit (.int .u8 0), .lit (.int .u8 0), .lit (.int .u8 0), .lit (.int .u8 0), .lit (.int .u8 0), .lit (.int .u8 0)], .lit (.int .u8 0), .lit (.int .u8 0)], []) := by kernel_rfl
  obtain ⟨⟨x1, x2, x3⟩, hx, hx1⟩ := Option.map_eq_some_iff.1 hw
  simp only [Prod.mk.injEq] at hx1
  obtain ⟨rfl, rfl⟩ := hx1
  exact OpenSpec.preRow_of_cond 8 hx (by kernel_rfl) (fun k hk => by cases hk) (by kernel_rfl) (laid_met os _)

set_option maxRecDepth 100000 in
theorem lifted (os : Os) (started : os.Started) (H : Type) (enc : TypeId × Value → H) (F : Stop.Interp) :
    ReturnsInHanded {} Tryz.checked os 7 .any (Sp.preRow enc Tryz.prog Tryz.f7 Rows.hostShortRow.domain false Rows.hostShortRow.laid) ((Sp.at F).post enc Tryz.prog Tryz.f7 false true false false) := by
  refine returnsInHanded_of_row (C := Tryz.checked) (s := Sp) own started (by kernel_rfl) Tryz.func7
    (witness_row_at (enc := enc) (C := Tryz.checked) false (laidWorld os) #[.agg #[.int .u16 0, .int .u16 0, .int .u16 0, .int .u16 0, .int .u16 0, .int .u16 0, .int .u16 0, .int .u16 0], .agg #[.int .u8 0, .int .u8 0, .int .u8 0, .int .u8 0, .int .u8 0, .int .u8 0, .int .u8 0, .int .u8 0], .int .u8 0, .int .u8 0] (World.laidAll_os _ _ _) (by kernel_rfl) (by kernel_rfl) (by kernel_rfl) (witness_row os enc)) ?_
  intro W base args ds gs before hval0 hW _ _ _ hL hsh _
  have hL' : laidMet Tryz.prog listed W := hL
  have hval : ∀ (j : Nat) t v, Tryz.f7.params[j]? = some t → args[j]? = some v → Value.okWide Tryz.prog W .any base t v := hval0
  have hW' := hW
  obtain ⟨p, q, hA0, hV, rfl, hfz, hnd⟩ := hW
  have hA : DataW.TrodAll enc Tryz.prog W 0 (fun _ => true) true Tryz.f7.params.toList args.toList ds p := hA0
  rw [Tryz.params7] at hA hval
  obtain ⟨v0, vs0, d0, ds0, p0, q0, hargs, rfl, rfl, h0, r0⟩ := trodAll_cons hA
  obtain ⟨v1, vs1, d1, ds1, p1, q1, rfl, rfl, rfl, h1, r1⟩ := trodAll_cons r0
  obtain ⟨v2, vs2, d2, ds2, p2, q2, rfl, rfl, rfl, h2, r2⟩ := trodAll_cons r1
  obtain ⟨v3, vs3, d3, ds3, p3, q3, rfl, rfl, rfl, h3, r3⟩ := trodAll_cons r2
  obtain ⟨rfl, rfl, rfl⟩ := trodAll_nil r3
  obtain rfl : args = #[v0, v1, v2, v3] := by cases args; simp_all
  obtain ⟨rfl, rfl⟩ := trodVars_none hV
  have k0 := h0
  have lt0 : ∀ x ∈ p0, x.block < W.heap.size := by obtain ⟨m, hm⟩ := k0; exact DataW.trod_lt m _ _ _ hm
  have k1 := h1
  have lt1 : ∀ x ∈ p1, x.block < W.heap.size := by obtain ⟨m, hm⟩ := k1; exact DataW.trod_lt m _ _ _ hm
  obtain ⟨a0, a1, a2, a3, a4, a5, a6, a7, rfl, ha⟩ := open_arr8 Tryz.underlying48 Tryz.underlying47 (by kernel_rfl) (by kernel_rfl) (hval 0 48 v0 rfl rfl) h0
  obtain ⟨b0, b1, b2, b3, b4, b5, b6, b7, rfl, hb⟩ := open_arr8 Tryz.underlying49 Tryz.underlying5 (by kernel_rfl) (by kernel_rfl) (hval 1 49 v1 rfl rfl) h1
  obtain ⟨f2, rfl, rfl, rfl, w2⟩ := open_int Tryz.underlying5 (hval 2 5 v2 rfl rfl) h2
  obtain ⟨m3, rfl, rfl, rfl, w3⟩ := open_int Tryz.underlying5 (hval 3 5 v3 rfl rfl) h3
  clear hA0 hval0
  refine (short_any ha hb w2 w3 W (env_of hL' hsh)).mono fun e W' ⟨he, bel⟩ => ?_
  subst he
  exact ⟨_, rfl, _, _, _, [], _, [], hW', trodAll_mk1 (shut_bool Tryz.underlying4 _),
    (trodAll_cons_mk (Below.trod laidOut (by kernel_rfl) (of_decide_eq_true (by kernel_rfl)) k0 bel lt0) (trodAll_cons_mk (Below.trod laidOut (by kernel_rfl) (of_decide_eq_true (by kernel_rfl)) k1 bel lt1) (trodAll_cons_mk (shut_int Tryz.underlying5 w2) (trodAll_cons_mk (shut_int Tryz.underlying5 w3) trodAll_mk0)))), rfl, bel.frame _, fun h => by cases h⟩

theorem over : Rows.hostShortRow.holds Tryz.pinned Sp :=
  OpenClaim.holds_of_cond 7 Tryz.f7 rfl rfl rfl rfl rfl rfl rfl ⟨rfl, rfl, rfl, rfl, rfl⟩ rfl rfl rfl rfl rfl (by kernel_rfl) Tryz.func7 (by kernel_rfl)
    (of_decide_eq_true (by kernel_rfl)) (by unfold Func.isWrapper; first | (rw [if_pos (by decide +kernel)]; kernel_rfl) | (rw [if_neg (by decide +kernel)]; exact ⟨rfl, rfl⟩))
    (fun os started H enc _ F0 => by rw [OpenClaim.pre_eq_preRow]; exact lifted os started H enc F0)

theorem proved : Rows.HostShortCardSaid :=
  Claim7.holds_tied_plain_at .later [] [.data, .data, .data, .data, .sentinel, .sentinel, .pinned] true Rows.hostShortCard.stood.harness Rows.hostShortCard.stood.looks
    over (fun _ h => by cases h) (by kernel_rfl) (fun _ h => by cases h) hostShort_row_tie rfl ⟨rfl, rfl⟩ (by kernel_rfl) rfl
    (fun f fn hf hfn => by
      obtain rfl : f = 7 := Option.some.inj ((show Tryz.prog.funcNamed "postilion/postilionlaw04.HostShort" = some 7 by kernel_rfl).symm.trans hf) |>.symm
      obtain rfl : fn = Tryz.f7 := (Option.some.inj (Tryz.func7.symm.trans hfn)).symm
      exact ⟨by kernel_rfl, fun j t ht => by
        rw [Tryz.params7] at ht
        rcases j with _ | _ | _ | _ | j
        · obtain rfl : t = 48 := by simpa using ht.symm
          exact (show Tryz.prog.wantsStandIn 48 = false by kernel_rfl)
        · obtain rfl : t = 49 := by simpa using ht.symm
          exact (show Tryz.prog.wantsStandIn 49 = false by kernel_rfl)
        · obtain rfl : t = 5 := by simpa using ht.symm
          exact (show Tryz.prog.wantsStandIn 5 = false by kernel_rfl)
        · obtain rfl : t = 5 := by simpa using ht.symm
          exact (show Tryz.prog.wantsStandIn 5 = false by kernel_rfl)
        · simp at ht⟩)
    (by kernel_rfl)
#print axioms proved
end Go.Proofs.YtpllhnknejceiaaGreatDoor.hostShort
