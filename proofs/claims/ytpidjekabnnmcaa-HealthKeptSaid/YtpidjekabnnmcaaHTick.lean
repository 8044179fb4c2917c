/-
  Given for the seat's laws: a tick. No condition but those of the theorems.
-/
import Derived.Test.YtpidjekabnnmcaaHTick0
import Derived.Test.YtpidjekabnnmcaaQKeys
import Derived.Deep.RegionHeld3
namespace Go.Proofs.Ytpidjekabnnmcaa.hp
open Go.RowKit mem find pb
set_option linter.unusedVariables false

abbrev latest : Int := 1099511618775
def HD.step (D : HD) : HD := { D with now := min (D.now + 1) latest, Q := pb.round (min (D.now + 1) latest) D.ev (wants D.R (min (D.now + 1) latest)) D.Q }
def HD.dues (D : HD) : List Int := pb.dues (min (D.now + 1) latest) (wants D.R (min (D.now + 1) latest)) D.Q
def HD.tryKey (D : HD) (k : Int) : HD := D.tried (D.place k)
def HD.tick (D : HD) : HD := D.dues.foldl HD.tryKey D.step
theorem tried_len (D : HD) (i : Int) : (D.tried i).R.length = D.R.length := by unfold HD.tried; split <;> simp
/-- what Tick leaves -/
structure TickPost (S : Nat → Prop) (r : Nat) (D : HD) (A : Option Addr) (c q : Nat) (bs : List Nat) (w : World) (e : Ending) (w' : World) : Prop where
  ex : ∃ A' c', e = .returned (.slice A' D.dues.length c') ∧ w'.ownsRow w.heap.size 3 1 (.slice A' D.dues.length c') D.dues.length (pl.I8 D.dues)
  hx : Hx w' S r D.tick A c q bs
  keep : Keep w.heap.size S w w'

section
variable {w : World} {S : Nat → Prop} {r c q : Nat} {D : HD} {A : Option Addr} {bs : List Nat}
/-- the head's time turned -/
theorem Hx.setNow (h : Hx w S r D A c q bs) (t : Int) : Hx (w.setCell ⟨r, 1, none⟩ (.int .i64 t)) S r { D with now := t } A c q bs ∧ Keep w.heap.size S w (w.setCell ⟨r, 1, none⟩ (.int .i64 t)) := by
  have far : ∀ g, g ≠ r → (w.setCell ⟨r, 1, none⟩ (.int .i64 t)).heap[g]? = w.heap[g]? := fun g hg => Below.heap_setCell _ _ _ _ (by exact hg)
  refine ⟨⟨h.hd.set 1 _, h.row.same fun g e => far g (prow_apart h.row e h.hd (by decide)), h.rowS, h.recs.same fun b hb => ?_, ?_, h.own⟩, (Keep.refl _ S w).setCell (.inr h.own) _⟩
  · obtain ⟨x, hl⟩ := h.recs.lies hb
    exact far b (hl.apart h.hd (by decide))
  · obtain ⟨A1, c1, p1, p2, p3⟩ := h.pn.ex
    exact ⟨⟨A1, c1, p1.of_same (far q (p1.apart h.hd (by decide))), find.RowsAt.of_same p2 (fun g e => far g (by rw [find.rowOf_eq] at e; exact pl.own_apart p2 e h.hd (by decide))), p3⟩, h.pn.own, h.pn.asc, h.pn.len, h.pn.lo, h.pn.hi⟩
/-- the plan turned -/
theorem Hx.setPlan {w' : World} {S' : Nat → Prop} {Q : List (Int × Int)} {ev : Int} (h : Hx w S r D A c q bs) (hp : pl.Pn w' S' q ev Q) (hk : Keep w.heap.size (fun g => S g ∧ ∃ cs : Array Value, Lies w g 94 cs ∨ Lies w g 103 cs) w w') (hS : ∀ g, S' g → S g) : Hx w' S r { D with ev := ev, Q := Q } A c q bs := by
  have far : ∀ (g : Nat) (t : TypeId) (cs : Array Value), Lies w g t cs → t ≠ 94 → t ≠ 103 → w'.heap[g]? = w.heap[g]? := fun g t cs hl h1 h2 => hk.block g hl.lt (by
    rintro ⟨_, ds, hd | hd⟩
    · exact h1 (hl.inj hd).1
    · exact h2 (hl.inj hd).1)
  refine ⟨h.hd.of_same (far r _ _ h.hd (by decide) (by decide)), h.row.same fun g e => ?_, h.rowS, h.recs.same fun b hb => ?_, hp.mono hS, h.own⟩
  · rcases h.row.2 with ⟨he, h0⟩ | ⟨g1, cap, cur, he, hb, hgg, _⟩
    · simp only [Value.slice.injEq] at he
      obtain ⟨rfl, _, rfl⟩ := he
      simp [rowOf, Value.ownBlock] at e
    · simp only [Value.slice.injEq] at he
      obtain ⟨rfl, _, rfl⟩ := he
      simp [rowOf, Value.ownBlock] at e
      subst e
      exact far g1 73 _ hgg (by decide) (by decide)
  · obtain ⟨x, hl⟩ := h.recs.lies hb
    exact far b _ _ hl (by decide) (by decide)
/-- the plan's own blocks -/
abbrev PB (w : World) (S : Nat → Prop) (g : Nat) : Prop := S g ∧ ∃ cs : Array Value, Lies w g 94 cs ∨ Lies w g 103 cs
theorem Hx.pn' (h : Hx w S r D A c q bs) : pl.Pn w (PB w S) q D.ev D.Q := by
  obtain ⟨A1, c1, p1, p2, p3⟩ := h.pn.ex
  refine ⟨⟨A1, c1, p1, p2, fun g e => ⟨p3 g e, ?_⟩⟩, ⟨h.pn.own, _, .inl p1⟩, h.pn.asc, h.pn.len, h.pn.lo, h.pn.hi⟩
  obtain ⟨_, cur, hc⟩ := pl.own_cell (g := g) p2 (by first | exact e | (rw [find.rowOf_eq]; exact e))
  exact ⟨cur, .inr hc⟩
theorem row_at {w : World} {B n cc : Nat} {A' : Option Addr} {xs : List Int} (h : w.ownsRow B 3 1 (.slice A' n cc) n (pl.I8 xs)) {j : Nat} {k : Int} (hj : xs[j]? = some k) : ∃ g, A' = some ⟨g, 0, none⟩ ∧ B ≤ g ∧ w.cell? ⟨g, j, none⟩ = some (.int .i64 k) := by
  obtain ⟨g, off, e, ⟨h1, _, h3⟩, hc⟩ := (pl.RowAt.of_own h).cell (pl.I8_get hj)
  subst e
  have : off = 0 := by
    rcases h.2 with ⟨hv, hn⟩ | ⟨g1, cap, cur, hv, _⟩
    · simp at hv
    · simp only [Value.slice.injEq, Option.some.injEq, Addr.mk.injEq] at hv
      exact hv.1.2.1
  subst this
  exact ⟨g, rfl, h1, by simpa using hc⟩
theorem take_fold (D : HD) (l : List Int) {j : Nat} {k : Int} (hj : l[j]? = some k) : (l.take (j + 1)).foldl HD.tryKey D = ((l.take j).foldl HD.tryKey D).tryKey k := by
  rw [List.take_add_one, hj]
  simp [List.foldl_append]
theorem fold_len (l : List Int) : ∀ D : HD, (l.foldl HD.tryKey D).R.length = D.R.length := by
  induction l with
  | nil => intro D; rfl
  | cons k l ih =>
    intro D
    rw [List.foldl_cons, ih]
    exact tried_len _ _

set_option maxRecDepth 100000 in
set_option maxHeartbeats 8000000 in
theorem tick_any (h : Hx w S r D A c q bs) (hS : ∀ g, S g → g < w.heap.size) (hs : D.R.length ≤ 16) (n0 : 0 ≤ D.now) (n1 : D.now ≤ latest) : Calls Try.prog 11 #[bp r] w (TickPost S r D A c q bs w) := by
  have hmix : Try.prog.follows .mixedOrders = true := by kernel_rfl
  have HM := Lib.hid (hmade_yes h)
  have c1 := h.hd.cell 1
  simp at c1
  have f1 := h.hd.frozen 1
  have hwr : IntKind.i64.wrap (D.now + 1) = D.now + 1 := IntWalk.i64_in _ (by unfold latest at n1; omega)
  obtain ⟨h1, k1⟩ := h.setNow (min (D.now + 1) latest)
  obtain ⟨t, ht⟩ : ∃ t, min (D.now + 1) latest = t := ⟨_, rfl⟩
  have ht0 : 0 ≤ t := by rw [← ht]; unfold latest; omega
  have ht1 : t ≤ 1099511626775 := by rw [← ht]; unfold latest; omega
  have HT := bk.Bx.mk ht
  rw [ht] at h1 k1
  have HS := bk.Bx.mk hS
  have HDU : bk.Bx (D.dues.length ≤ 64) := ⟨by
    have h3 := h.pn.len
    have h4 := pb.dues_len (min (D.now + 1) latest) (wants D.R (min (D.now + 1) latest)) D.Q
    unfold HD.dues
    omega⟩
  have hsz : (w.setCell ⟨r, 1, none⟩ (.int .i64 t)).heap.size = w.heap.size := by simp [World.setCell]
  obtain ⟨w1, hw1⟩ : ∃ w1, w.setCell ⟨r, 1, none⟩ (.int .i64 t) = w1 := ⟨_, rfl⟩
  rw [hw1] at h1 k1 hsz
  have HW1 := bk.Bx.mk hw1
  have H1 := bk.Bx.mk h1
  have K1 := bk.Bx.mk k1
  have HZ := bk.Bx.mk hsz
  have HLS := bk.Bx.mk hs
  have d6 := h1.hd.cell 6
  have d1 := h1.hd.cell 1
  simp at d6 d1
  clear h h1 k1 hsz hS hs hw1 n0 n1 ht
  go_enter Try.func11, Try.ntmps11
  go_wp2_with (go_at_call 24; refine HM.out.mono ?_; rintro e w' ⟨rfl, rfl⟩)
  all_goals
    first
      | (have e : D.now + 1 = t := by have := HT.out; unfold latest at this; omega
         rw [e, HW1.out]
         clear e)
      | (have e : (1099511618775 : Int) = t := by have := HT.out; unfold latest at this; omega
         rw [e, HW1.out]
         clear e)
  all_goals
    clear c1 f1 hwr
    have HC : bk.Bx (∀ W', Below w1.heap.size w1 W' → (W'.cell? ⟨r, 6, none⟩ = some (bp q) ∧ W'.cell? ⟨r, 1, none⟩ = some (.int .i64 t))) := ⟨fun W' hW => ⟨(hW.cell (p := ⟨r, 6, none⟩) H1.out.hd.lt).trans d6, (hW.cell (p := ⟨r, 1, none⟩) H1.out.hd.lt).trans d1⟩⟩
    have KW := bk.Bx.mk (fun W (hW : Below w1.heap.size w1 W) => wanted_any (H1.out.below hW) HLS.out)
    have bb : Below w1.heap.size w1 w1.drew := (Below.refl _ _).drew
    have KR := bk.Bx.mk (fun (W W0 : World) (A2 : Option Addr) (c2 : Nat) (hW : Below w1.heap.size w1 W) (h0 : w1.heap.size ≤ W0.heap.size) (ho : Own8 W0 W (.slice A2 (wants D.R t).length c2) (wants D.R t)) =>
      pl.round_any (H1.out.below hW).pn' (Aw := A2) (cw := c2) (ws := wants D.R t) ((pl.RowAt.of_own ho.own).weak fun g hg => ⟨hg.2.1, fun hs => by have := HS.out g hs.1; have := HZ.out; omega⟩) (by
        unfold wants
        rw [List.length_map]
        exact Nat.le_trans (List.length_filter_le _ _) (by have := HLS.out; omega)) ht0 ht1)
    generalize hks : wants D.R t = ks at *
    have HKS := bk.Bx.mk hks
    clear hks
    go_region_held3 (fun W' => W'.cell? ⟨r, 6, none⟩ = some (bp q) ∧ W'.cell? ⟨r, 1, none⟩ = some (.int .i64 t))
      (first | exact HC.out _ bb | exact HC2)
      (first
        | (go_at_call 31; refine (KW.out _ bb).mono ?_; rintro e wz ⟨A2, c2, rfl, ho⟩; replace bb := bb.trans (ho.below.mono bb.size))
        | (go_at_call 30; refine (KR.out _ _ _ _ bb (by simp) ho).mono ?_; rintro e wy ⟨A3, c3, rfl, ho3, hp3, hk3⟩; have HC2 : wy.cell? ⟨r, 6, none⟩ = some (bp q) ∧ wy.cell? ⟨r, 1, none⟩ = some (.int .i64 t) := by
            have h9 := H1.out.below bb
            have e9 : wy.heap[r]? = wz.heap[r]? := hk3.block r h9.hd.lt (by rintro ⟨_, ds, hd | hd⟩; exact absurd (h9.hd.inj hd).1 (by decide); exact absurd (h9.hd.inj hd).1 (by decide))
            exact ⟨(World.cell?_of_block e9).trans (HC.out _ bb).1, (World.cell?_of_block e9).trans (HC.out _ bb).2⟩))
    all_goals
      have hl9 : pb.dues t ks D.Q = D.dues := by unfold HD.dues; rw [HT.out, HKS.out]
      have hx9 : Hx wy S r D.step A c q bs := by
        have h9 := (H1.out.below bb).setPlan hp3 hk3 (fun g hg => hg.1)
        have e9 : D.step = { { D with now := t } with ev := D.ev, Q := pb.round t D.ev ks D.Q } := by unfold HD.step; rw [HT.out, HKS.out]
        rw [e9]
        exact h9
      have hk9 : Keep w.heap.size S w wy := K1.out.trans (((Keep.of_below bb S).trans (hk3.mono bb.size (fun _ _ e => e.1))).mono (by rw [HZ.out]; exact Nat.le_refl _) (fun _ _ e => e))
      rw [hl9] at ho3 ⊢
      have hbz : w.heap.size ≤ wz.heap.size := by have := bb.size; have := HZ.out; omega
      have hS9 : ∀ g, S g → g < wz.heap.size := fun g hg => by have := HS.out g hg; omega
      have ho9 := pl.own_base (B' := w.heap.size) ho3 hbz
      have HX := bk.Bx.mk hx9
      have HK := bk.Bx.mk hk9
      have HO := bk.Bx.mk ho3
      have HSZ := bk.Bx.mk hS9
      have HBZ := bk.Bx.mk hbz
      have HDL := bk.Bx.mk (show D.step.R.length ≤ 16 from HLS.out)
      have HTK : bk.Bx (D.tick = D.dues.foldl HD.tryKey D.step) := ⟨rfl⟩
      clear hl9 hx9 hk9 ho9 ho3 hp3 hk3 HC2 ho bb hbz hS9 KW KR HC HM H1 K1 HZ HT HKS d1 d6 ht0 ht1
      obtain ⟨l, hl⟩ : ∃ l, D.dues = l := ⟨_, rfl⟩
      rw [hl] at HO HTK HDU ⊢
      have HLQ := bk.Bx.mk hl
      clear hl
      generalize D.step = D1 at *
      obtain ⟨n, hn⟩ : ∃ n, l.length = n := ⟨_, rfl⟩
      have HN := bk.Bx.mk hn
      have hn2 : n ≤ 64 := by rw [← hn]; exact HDU.out
      rw [hn] at HO ⊢
      clear hn
      go_wp2_with fail
      go_loopw [31] (fun s31 wr => ∃ j : Nat, j ≤ n ∧ s31 = .int .i64 j ∧ bk.Bx (Hx wr S r ((l.take j).foldl HD.tryKey D1) A c q bs) ∧ bk.Bx (Keep wy.heap.size S wy wr)) (fun s31 _ => n - (intOf s31).toNat)
      case atStart => exact ⟨0, by omega, rfl, ⟨by simpa using HX.out⟩, ⟨Keep.refl _ _ _⟩⟩
      case round =>
        obtain ⟨j, hj, rfl, hx, hk⟩ := hrel
        by_cases hjn : j < n
        · obtain ⟨k, hkj⟩ : ∃ k, l[j]? = some k := ⟨_, List.getElem?_eq_getElem (by rw [HN.out]; exact hjn)⟩
          obtain ⟨g, hA, hg, hc⟩ := row_at HO.out hkj
          have hcr : wr.cell? ⟨g, j, none⟩ = some (.int .i64 k) := (World.cell?_of_block (hk.out.block g (World.block_lt_of_cell? _ _ hc) (fun e => by have := HSZ.out g e; omega))).trans hc
          have hlen : ((l.take j).foldl HD.tryKey D1).R.length ≤ 1000 := by rw [fold_len]; have := HDL.out; omega
          have KP := bk.Bx.mk (place_any hx.out hlen k)
          have HFD := bk.Bx.mk (take_fold D1 l hkj)
          have KT := bk.Bx.mk (fun W (hW : Below wr.heap.size wr W) => htry_any (hx.out.below hW) hlen (((l.take j).foldl HD.tryKey D1).place k))
          subst hA
          clear hc hg hkj hlen
          go_wp2_with fail
          refine KP.out.mono ?_
          rintro e w5 ⟨rfl, hb5⟩
          have KT2 := bk.Bx.mk (KT.out w5 hb5)
          have HB5 := bk.Bx.mk hb5
          clear hb5 KT KP
          go_wp2_with fail
          refine KT2.out.mono ?_
          rintro e w6 ⟨rfl, hx6, hk6⟩
          have HX6 : bk.Bx (Hx w6 S r ((l.take (j + 1)).foldl HD.tryKey D1) A c q bs) := ⟨by rw [HFD.out]; exact hx6⟩
          have HK6 : bk.Bx (Keep wy.heap.size S wy w6) := ⟨hk.out.trans (((Keep.of_below HB5.out S).trans (hk6.mono HB5.out.size (fun _ _ e => e))).mono hk.out.size (fun _ _ e => e))⟩
          clear hx6 hk6 KT2 HB5 HFD
          generalize HD.tryV _ _ = tv at *
          go_wp2_with fail
          go_roundw
          case rel => exact ⟨j + 1, by omega, by first | rfl | simp, HX6, HK6⟩
          case measure => simp [intOf]; omega
        · obtain rfl : j = n := by omega
          go_wp2_with fail
          go_ret
          refine ⟨⟨A3, c3, ?_, ?_⟩, ?_, ?_⟩
          · rw [HLQ.out, HN.out]; rfl
          · rw [HLQ.out, HN.out]
            refine wn.rown_same (pl.own_base HO.out HBZ.out) fun g e => hk.out.block g (wn.rown_lt HO.out e).2 (fun hs => ?_)
            have h4 := HSZ.out g hs
            have h5 := (wn.rown_lt HO.out e).1
            omega
          · rw [HTK.out]
            have h4 := hx.out
            rwa [List.take_of_length_le (by rw [HN.out]; exact Nat.le_refl _)] at h4
          · exact HK.out.trans (hk.out.mono HK.out.size (fun _ _ e => e))
end
end Go.Proofs.Ytpidjekabnnmcaa.hp
