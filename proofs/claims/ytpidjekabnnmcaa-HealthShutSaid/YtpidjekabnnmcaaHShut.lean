/-
  Given for 'Rows.HealthShutSaid': the law's walk. No condition but those of the theorems.
-/
import Derived.Test.YtpidjekabnnmcaaHOwn0
import Derived.Test.YtpidjekabnnmcaaQIn
import Derived.Shelf.SlSortCmp.QuietGrown
namespace Go.Proofs.Ytpidjekabnnmcaa.hp
open Go.RowKit mem find pb
set_option linter.unusedVariables false

/-! ### windows -/
/-- good ones, then bad ones -/
def crs (a j : Nat) : Nat := wn.adds 0 (List.replicate a true ++ List.replicate j false)
theorem crs_lt (a j : Nat) : crs a j < 65536 := wn.adds_lt _ _ (by omega)
theorem crs_good (a : Nat) : wn.addw (crs a 0) true = crs (a + 1) 0 := by
  unfold crs
  rw [List.replicate_zero, List.append_nil, List.append_nil, List.replicate_succ', wn.adds_snoc]
theorem crs_bad (a j : Nat) : wn.addw (crs a j) false = crs a (j + 1) := by
  unfold crs
  rw [List.replicate_succ', ← List.append_assoc, wn.adds_snoc]
theorem crs_chk : ((List.range 9).all fun a => (List.range 9).all fun j => decide (wn.bads (wn.last8 (List.replicate a true ++ List.replicate j false)) = j)) = true := by decide +kernel
theorem crs_bads {a j : Nat} (ha : a ≤ 8) (hj : j ≤ 8) : wn.bads (wn.lst (crs a j)) = j := by
  unfold crs
  rw [wn.lst_last]
  have h := crs_chk
  rw [List.all_eq_true] at h
  have h1 := h a (List.mem_range.2 (by omega))
  rw [List.all_eq_true] at h1
  exact of_decide_eq_true (h1 j (List.mem_range.2 (by omega)))

/-! ### breakers -/
theorem cl_ob (t k : Int) (u : Bool) : bk.cl ⟨true, t, k, u⟩ = false := by unfold bk.cl bk.zb; simp
theorem may_ob {t k : Int} (u : Bool) (h0 : 0 ≤ t) (h1 : t ≤ 1000000) (h2 : 1 ≤ k) (h3 : k ≤ 8000) : bk.may ⟨true, t, k, u⟩ = true := by
  unfold bk.may bk.tk
  simp
  omega
theorem st_ob {t k : Int} (u : Bool) (h0 : 0 ≤ t) (h1 : t ≤ 1000000) (h2 : 1 ≤ k) (h3 : k ≤ 8000) (n : Int) : bk.st ⟨true, t, k, u⟩ n = if n < t + k then 1 else 2 := by
  rw [bk.st_op (cl_ob t k u) (may_ob u h0 h1 h2 h3)]

/-! ### the table of one parent -/
structure Sh (f k : Int) (D : HD) (t : Int) (wi : Nat) (br : bk.Bk) (nx : Int) : Prop where
  now : D.now = t
  fails : D.fails = f
  cool : D.cool = k
  R : ∃ pa, D.R = [⟨1, pa, wi, br⟩]
  ev : D.ev = 1000
  Q : D.Q = [(1, nx)]
section
variable {f k : Int} {D : HD} {t : Int} {wi : Nat} {br : bk.Bk} {nx : Int}
theorem Sh.len (h : Sh f k D t wi br nx) : D.R.length = 1 := by obtain ⟨pa, e⟩ := h.R; rw [e]; rfl
theorem Sh.lt (h : Sh f k D t wi br nx) (hw : wi < 65536) : ∀ x ∈ D.R, x.wi < 65536 := by
  obtain ⟨pa, e⟩ := h.R
  rw [e]
  intro x hx
  simp at hx
  subst hx
  exact hw
theorem Sh.place (h : Sh f k D t wi br nx) : D.place 1 = ((0 : Nat) : Int) := by
  obtain ⟨pa, e⟩ := h.R
  refine fnd_first (fun i hi => by omega) ?_ (by rw [h.len]; omega)
  unfold HD.placeOk
  rw [e]
  rfl
theorem Sh.ec (h : Sh f k D t wi br nx) : D.ec 1 = 0 := by
  unfold HD.ec
  rw [h.place]
  rfl
theorem Sh.rec0 (h : Sh f k D t wi br nx) : ∃ pa, D.rec? 0 = some ⟨1, pa, wi, br⟩ ∧ D.R = [⟨1, pa, wi, br⟩] := by
  obtain ⟨pa, e⟩ := h.R
  refine ⟨pa, ?_, e⟩
  unfold HD.rec?
  rw [e]
  rfl
theorem Sh.lets (h : Sh f k D t wi br nx) : D.lets 0 = bk.lets br t := by
  obtain ⟨pa, e, _⟩ := h.rec0
  unfold HD.lets
  rw [e, h.now]
theorem Sh.tells (h : Sh f k D t wi br nx) : D.tells 0 = .tuple #[.int .u16 (wi : Int), bk.bv br] := by
  obtain ⟨pa, e, _⟩ := h.rec0
  unfold HD.tells
  rw [e]
theorem Sh.tryV (h : Sh f k D t wi br nx) : D.tryV 0 = .tuple #[.bool (bk.tryt br t), .int .i64 (bk.ec (bk.tryE br t))] := by
  obtain ⟨pa, e, _⟩ := h.rec0
  unfold HD.tryV
  rw [e, h.now]
theorem Sh.tried (h : Sh f k D t wi br nx) : Sh f k (D.tried 0) t wi (bk.tryb br t) nx := by
  obtain ⟨pa, e, e2⟩ := h.rec0
  have e3 : D.tried 0 = { D with R := [⟨1, pa, wi, bk.tryb br t⟩] } := by
    unfold HD.tried
    rw [e]
    simp only [e2, tryR, h.now]
    rfl
  rw [e3]
  exact ⟨h.now, h.fails, h.cool, ⟨pa, rfl⟩, h.ev, h.Q⟩
theorem Sh.hit (h : Sh f k D t wi br nx) (g : RD → RD) {wi' : Nat} {br' : bk.Bk} (hg : ∀ pa, g ⟨1, pa, wi, br⟩ = ⟨1, pa, wi', br'⟩) : Sh f k (D.hit 1 g) t wi' br' nx := by
  obtain ⟨pa, e⟩ := h.R
  have e3 : D.hit 1 g = { D with R := [⟨1, pa, wi', br'⟩] } := by
    unfold HD.hit
    rw [h.place, e]
    simp [hg]
  rw [e3]
  exact ⟨h.now, h.fails, h.cool, ⟨pa, rfl⟩, h.ev, h.Q⟩
/-- good, of a closed one -/
theorem Sh.good_cl (h : Sh f k D t wi bk.zb nx) : Sh f k (D.hit 1 (fun x => goodR x D.now false)) t (wn.addw wi true) bk.zb nx := by
  refine h.hit _ fun pa => ?_
  unfold goodR cnt
  rw [bk.st_cl rfl]
  rfl
/-- bad, of a closed one -/
theorem Sh.bad_cl (h : Sh f k D t wi bk.zb nx) (h0 : 0 ≤ t) (h1 : t ≤ 1000000) (h2 : 1 ≤ k) (h3 : k ≤ 1000) :
    Sh f k (D.hit 1 (fun x => badR x D.now D.cool D.fails false)) t (wn.addw wi false) (if f ≤ (wn.bads (wn.lst (wn.addw wi false)) : Int) then ⟨true, t, k, false⟩ else bk.zb) nx := by
  refine h.hit _ fun pa => ?_
  unfold badR cnt
  rw [bk.st_cl rfl, h.now, h.cool, h.fails]
  have hE : bk.badE bk.zb t k = false := by
    unfold bk.badE bk.may bk.tk bk.ck bk.cl
    simp
    omega
  unfold badW bk.badb
  rw [hE]
  by_cases hf : f ≤ (wn.bads (wn.lst (wn.addw wi false)) : Int)
  · simp [hf, bk.ends, bk.cl]
  · simp [hf, bk.ends, bk.cl]
/-- what comes of an open one changes nothing -/
theorem Sh.good_op (h : Sh f k D t wi br nx) (hs : bk.st br t ≠ 0) : Sh f k (D.hit 1 (fun x => goodR x D.now false)) t wi br nx := by
  refine h.hit _ fun pa => ?_
  unfold goodR cnt
  rw [h.now]
  simp [hs]
theorem Sh.bad_op (h : Sh f k D t wi br nx) (hs : bk.st br t ≠ 0) : Sh f k (D.hit 1 (fun x => badR x D.now D.cool D.fails false)) t wi br nx := by
  refine h.hit _ fun pa => ?_
  unfold badR cnt
  rw [h.now]
  simp [hs]
theorem Sh.back (h : Sh f k D t wi br nx) : Sh f k (D.hit 1 (fun x => backR x true)) t wi (bk.backb br true) nx := h.hit _ fun pa => rfl
theorem Sh.good_tr (h : Sh f k D t wi br nx) (ht : br.tr = true) : Sh f k (D.hit 1 (fun x => goodR x D.now true)) t 0 (bk.goodb br true) nx := by
  refine h.hit _ fun pa => ?_
  unfold goodR cnt
  simp [ht]
theorem Sh.bad_tr (h : Sh f k D t wi br nx) (ht : br.tr = true) : Sh f k (D.hit 1 (fun x => badR x D.now D.cool D.fails true)) t wi (bk.badb br t k true (decide (f ≤ (wn.bads (wn.lst wi) : Int)))) nx := by
  refine h.hit _ fun pa => ?_
  unfold badR cnt badW
  simp [ht, h.now, h.cool, h.fails]
/-- a tick -/
theorem Sh.step_ (h : Sh f k D t wi br nx) (h1 : t < latest) : min (D.now + 1) latest = t + 1 := by rw [h.now]; omega
theorem Sh.wants_no (h : Sh f k D t wi br nx) {n : Int} (hw : (decide (bk.st br n = 2) && !br.tr) = false) : wants D.R n = [] := by
  obtain ⟨pa, e⟩ := h.R
  unfold wants
  rw [e]
  simp only [List.filter_cons, wnt, hw, Bool.false_eq_true, if_false, List.filter_nil, List.map_nil]
theorem Sh.wants_yes (h : Sh f k D t wi br nx) {n : Int} (hw : (decide (bk.st br n = 2) && !br.tr) = true) : wants D.R n = [1] := by
  obtain ⟨pa, e⟩ := h.R
  unfold wants
  rw [e]
  simp only [List.filter_cons, wnt, hw, if_true, List.filter_nil, List.map_cons, List.map_nil]
theorem Sh.tick_no (h : Sh f k D t wi br nx) (h1 : t < latest) (hw : (decide (bk.st br (t + 1) = 2) && !br.tr) = false) : D.dues = [] ∧ Sh f k D.tick (t + 1) wi br 0 := by
  have e1 := h.step_ h1
  have hd : D.dues = [] := by
    unfold HD.dues
    rw [e1, h.wants_no hw, h.Q]
    rfl
  refine ⟨hd, ?_⟩
  unfold HD.tick
  rw [hd, List.foldl_nil]
  unfold HD.step
  rw [e1, h.wants_no hw, h.Q]
  exact ⟨rfl, h.fails, h.cool, h.R, h.ev, rfl⟩
theorem Sh.tick_yes (h : Sh f k D t wi br nx) (h1 : t < latest) (hw : (decide (bk.st br (t + 1) = 2) && !br.tr) = true) (hn : nx ≤ t + 1) : D.dues = [1] ∧ Sh f k D.tick (t + 1) wi (bk.tryb br (t + 1)) (t + 1 + 1000) := by
  have e1 := h.step_ h1
  have hd : D.dues = [1] := by
    unfold HD.dues
    rw [e1, h.wants_yes hw, h.Q]
    simp [pb.dues, pb.isDue, pb.wants, hn]
  refine ⟨hd, ?_⟩
  have hs : Sh f k D.step (t + 1) wi br (t + 1 + 1000) := by
    unfold HD.step
    rw [e1, h.wants_yes hw, h.Q]
    refine ⟨rfl, h.fails, h.cool, h.R, h.ev, ?_⟩
    show pb.round (t + 1) D.ev [1] [(1, nx)] = _
    simp [pb.round, pb.after, pb.wants, hn, h.ev]
  unfold HD.tick
  rw [hd]
  show Sh f k (D.step.tryKey 1) _ _ _ _
  unfold HD.tryKey
  rw [hs.place]
  exact hs.tried
end
theorem Sh.start (f k : Int) (A : Option Addr) (c : Nat) : Sh f k (HD.new (cfOf 1 f k 1000 A c)) 0 (crs 0 0) bk.zb 0 :=
  ⟨rfl, rfl, rfl, ⟨_, rfl⟩, rfl, rfl⟩
/-- where the law stands -/
structure SW (w0 : World) (f k : Int) (r q : Nat) (t : Int) (wi : Nat) (br : bk.Bk) (nx : Int) (w : World) : Prop where
  ex : ∃ D, Sh f k D t wi br nx ∧ AW w0 r q D w
section
variable {w0 w : World} {f k : Int} {r q : Nat} {t : Int} {wi : Nat} {br : bk.Bk} {nx : Int}
theorem SW.below {w' : World} (h : SW w0 f k r q t wi br nx w) (hb : Below w.heap.size w w') : SW w0 f k r q t wi br nx w' := by
  obtain ⟨D, h1, h2⟩ := h.ex
  exact ⟨D, h1, h2.below hb⟩
theorem SW.keep (h : SW w0 f k r q t wi br nx w) : Below w0.heap.size w0 w := by
  obtain ⟨D, h1, h2⟩ := h.ex
  exact h2.keep
theorem sw_lets (h : SW w0 f k r q t wi br nx w) {v : Bool} (hv : bk.lets br t = v) : Calls Try.prog 15 #[bp r, .int .i64 0] w fun e w' => e = .returned (.bool v) ∧ SW w0 f k r q t wi br nx w' := by
  obtain ⟨D, h1, h2⟩ := h.ex
  exact (aw_lets h2 (by rw [h1.len]; omega) 0 (h1.lets.trans hv)).mono fun e w' ⟨he, h3⟩ => ⟨he, D, h1, h3⟩
theorem sw_good_cl (h : SW w0 f k r q t wi bk.zb nx w) (hw : wi < 65536) : Calls Try.prog 16 #[bp r, .int .i64 1, .bool false] w fun e w' => e = .returned (.int .i64 0) ∧ SW w0 f k r q t (wn.addw wi true) bk.zb nx w' := by
  obtain ⟨D, h1, h2⟩ := h.ex
  exact (aw_good h2 (by rw [h1.len]; omega) (h1.lt hw) 1 false h1.ec).mono fun e w' ⟨he, h3⟩ => ⟨he, _, h1.good_cl, h3⟩
theorem sw_good_op (h : SW w0 f k r q t wi br nx w) (hw : wi < 65536) (hs : bk.st br t ≠ 0) : Calls Try.prog 16 #[bp r, .int .i64 1, .bool false] w fun e w' => e = .returned (.int .i64 0) ∧ SW w0 f k r q t wi br nx w' := by
  obtain ⟨D, h1, h2⟩ := h.ex
  exact (aw_good h2 (by rw [h1.len]; omega) (h1.lt hw) 1 false h1.ec).mono fun e w' ⟨he, h3⟩ => ⟨he, _, h1.good_op hs, h3⟩
theorem sw_bad_op (h : SW w0 f k r q t wi br nx w) (hw : wi < 65536) (hs : bk.st br t ≠ 0) : Calls Try.prog 17 #[bp r, .int .i64 1, .bool false] w fun e w' => e = .returned (.int .i64 0) ∧ SW w0 f k r q t wi br nx w' := by
  obtain ⟨D, h1, h2⟩ := h.ex
  exact (aw_bad h2 (by rw [h1.len]; omega) (h1.lt hw) 1 false h1.ec).mono fun e w' ⟨he, h3⟩ => ⟨he, _, h1.bad_op hs, h3⟩
theorem sw_good_tr (h : SW w0 f k r q t wi br nx w) (hw : wi < 65536) (ht : br.tr = true) : Calls Try.prog 16 #[bp r, .int .i64 1, .bool true] w fun e w' => e = .returned (.int .i64 0) ∧ SW w0 f k r q t 0 (bk.goodb br true) nx w' := by
  obtain ⟨D, h1, h2⟩ := h.ex
  exact (aw_good h2 (by rw [h1.len]; omega) (h1.lt hw) 1 true h1.ec).mono fun e w' ⟨he, h3⟩ => ⟨he, _, h1.good_tr ht, h3⟩
theorem sw_bad_tr (h : SW w0 f k r q t wi br nx w) (hw : wi < 65536) (ht : br.tr = true) : Calls Try.prog 17 #[bp r, .int .i64 1, .bool true] w fun e w' => e = .returned (.int .i64 0) ∧ SW w0 f k r q t wi (bk.badb br t k true (decide (f ≤ (wn.bads (wn.lst wi) : Int)))) nx w' := by
  obtain ⟨D, h1, h2⟩ := h.ex
  exact (aw_bad h2 (by rw [h1.len]; omega) (h1.lt hw) 1 true h1.ec).mono fun e w' ⟨he, h3⟩ => ⟨he, _, h1.bad_tr ht, h3⟩
theorem sw_back (h : SW w0 f k r q t wi br nx w) : Calls Try.prog 18 #[bp r, .int .i64 1, .bool true] w fun e w' => e = .returned (.int .i64 0) ∧ SW w0 f k r q t wi (bk.backb br true) nx w' := by
  obtain ⟨D, h1, h2⟩ := h.ex
  exact (aw_back h2 (by rw [h1.len]; omega) 1 true h1.ec).mono fun e w' ⟨he, h3⟩ => ⟨he, _, h1.back, h3⟩
theorem sw_try (h : SW w0 f k r q t wi br nx w) (ht : bk.tryt br t = true) (he0 : bk.tryE br t = false) : Calls Try.prog 8 #[bp r, .int .i64 0] w fun e w' => e = .returned (.tuple #[.bool true, .int .i64 0]) ∧ SW w0 f k r q t wi (bk.tryb br t) nx w' := by
  obtain ⟨D, h1, h2⟩ := h.ex
  refine (aw_try h2 (by rw [h1.len]; omega) 0).mono fun e w' ⟨he, h3⟩ => ⟨?_, _, h1.tried, h3⟩
  rw [he, h1.tryV, ht, he0]
  rfl
theorem sw_tells (h : SW w0 f k r q t wi br nx w) : Calls Try.prog 9 #[bp r, .int .i64 0] w fun e w' => e = .returned (.tuple #[.int .u16 (wi : Int), bk.bv br]) ∧ SW w0 f k r q t wi br nx w' := by
  obtain ⟨D, h1, h2⟩ := h.ex
  exact (aw_tells h2 (by rw [h1.len]; omega) 0).mono fun e w' ⟨he, h3⟩ => ⟨by rw [he, h1.tells], _, h1, h3⟩
theorem sw_now (h : SW w0 f k r q t wi br nx w) : Calls Try.prog 12 #[bp r] w fun e w' => e = .returned (.int .i64 t) ∧ w' = w := by
  obtain ⟨D, h1, h2⟩ := h.ex
  obtain ⟨A, c, bs, hx⟩ := h2.ex
  exact (now_any hx).mono fun e w' ⟨he, hb⟩ => ⟨by rw [he, h1.now], hb.symm⟩
theorem sw_tick_no (h : SW w0 f k r q t wi br nx w) (h0 : 0 ≤ t) (h1 : t ≤ 1000000) (hw : (decide (bk.st br (t + 1) = 2) && !br.tr) = false) : Calls Try.prog 11 #[bp r] w fun e w' => (∃ A' c', e = .returned (.slice A' 0 c')) ∧ SW w0 f k r q (t + 1) wi br 0 w' := by
  obtain ⟨D, d1, d2⟩ := h.ex
  obtain ⟨hd, hs⟩ := d1.tick_no (by unfold latest; omega) hw
  refine (aw_tick d2 (by rw [d1.len]; omega) (by rw [d1.now]; exact h0) (by rw [d1.now]; unfold latest; omega)).mono ?_
  rintro e w' ⟨⟨A', c', he, _⟩, h3⟩
  rw [hd] at he
  exact ⟨⟨A', c', he⟩, _, hs, h3⟩
theorem sw_tick_yes (h : SW w0 f k r q t wi br nx w) (h0 : 0 ≤ t) (h1 : t ≤ 1000000) (hw : (decide (bk.st br (t + 1) = 2) && !br.tr) = true) (hn : nx ≤ t + 1) : Calls Try.prog 11 #[bp r] w fun e w' => (∃ g off c', e = .returned (.slice (some ⟨g, off, none⟩) 1 c') ∧ w'.cell? ⟨g, off, none⟩ = some (.int .i64 1)) ∧ SW w0 f k r q (t + 1) wi (bk.tryb br (t + 1)) (t + 1 + 1000) w' := by
  obtain ⟨D, d1, d2⟩ := h.ex
  obtain ⟨hd, hs⟩ := d1.tick_yes (by unfold latest; omega) hw hn
  refine (aw_tick d2 (by rw [d1.len]; omega) (by rw [d1.now]; exact h0) (by rw [d1.now]; unfold latest; omega)).mono ?_
  rintro e w' ⟨⟨A', c', he, hr⟩, h3⟩
  rw [hd] at he hr
  obtain ⟨g, off, hA, _, hc⟩ := hr.ex (by simp [pl.I8])
  have hc0 := hc 0 (.int .i64 1) rfl
  subst hA
  exact ⟨⟨g, off, c', he, hc0⟩, _, hs, h3⟩
theorem sw_ticks (h : SW w0 f k r q t wi br nx w) (h0 : 0 ≤ t) (h1 : t ≤ 1000000) {br' : bk.Bk} {nx' : Int} (ht : (((decide (bk.st br (t + 1) = 2) && !br.tr) = false ∧ br' = br ∧ nx' = 0) ∨ ((decide (bk.st br (t + 1) = 2) && !br.tr) = true ∧ nx ≤ t + 1 ∧ br' = bk.tryb br (t + 1) ∧ nx' = t + 1 + 1000))) :
    Calls Try.prog 22 #[bp r, .int .i64 1] w fun e w' => (∃ v, e = .returned v) ∧ SW w0 f k r q (t + 1) wi br' nx' w' := by
  obtain ⟨D, d1, d2⟩ := h.ex
  have hs : Sh f k D.tick (t + 1) wi br' nx' := by
    rcases ht with ⟨hw, rfl, rfl⟩ | ⟨hw, hn, rfl, rfl⟩
    · exact (d1.tick_no (by unfold latest; omega) hw).2
    · exact (d1.tick_yes (by unfold latest; omega) hw hn).2
  refine (aw_ticks d2 (by rw [d1.len]; omega) (by rw [d1.now]; exact h0) (by rw [d1.now]; unfold latest; omega) 1 (by omega)).mono ?_
  rintro e w' ⟨⟨A', c', he, _⟩, h3⟩
  exact ⟨⟨_, he⟩, _, hs, h3⟩
end

/-! ### the course of the law -/
def ob (t sp : Int) (u : Bool) : bk.Bk := ⟨true, t, sp, u⟩
def brAt (F : Nat) (K : Int) (j : Nat) : bk.Bk := if j < F then bk.zb else ob 0 K false
section
variable {w0 w : World} {r q : Nat} {F a j K i : Nat}
theorem brAt_lt (h : j < F) (K : Int) : brAt F K j = bk.zb := by unfold brAt; rw [if_pos h]
theorem brAt_end (K : Int) : brAt F K F = ob 0 K false := by unfold brAt; rw [if_neg (by omega)]
theorem sw_bad_cl (h : SW w0 (F : Int) (K : Int) r q 0 (crs a j) (brAt F K j) 0 w) (hj : j < F) (hF : F ≤ 8) (ha : a ≤ 8) (h1 : 1 ≤ K) (h3 : K ≤ 300) : Calls Try.prog 17 #[bp r, .int .i64 1, .bool false] w fun e w' => e = .returned (.int .i64 0) ∧ SW w0 (F : Int) (K : Int) r q 0 (crs a (j + 1)) (brAt F K (j + 1)) 0 w' := by
  rw [brAt_lt hj] at h
  obtain ⟨D, d1, d2⟩ := h.ex
  refine (aw_bad d2 (by rw [d1.len]; omega) (d1.lt (crs_lt a j)) 1 false d1.ec).mono fun e w' ⟨he, h3⟩ => ⟨he, _, ?_, h3⟩
  have := d1.bad_cl (by omega) (by omega) (by omega) (by omega)
  rw [crs_bad, crs_bads ha (by omega)] at this
  unfold brAt ob
  by_cases hjF : j + 1 < F
  · rw [if_neg (by omega)] at this; rw [if_pos hjF]; exact this
  · rw [if_pos (by omega)] at this; rw [if_neg hjF]; exact this
theorem lets_ob {t sp n : Int} (h0 : 0 ≤ t) (h1 : t ≤ 1000000) (h2 : 1 ≤ sp) (h3 : sp ≤ 8000) (hn : n < t + sp) (u : Bool) : bk.lets (ob t sp u) n = false ∧ bk.st (ob t sp u) n = 1 := by
  have := st_ob u h0 h1 h2 h3 n
  rw [if_pos hn] at this
  unfold bk.lets ob
  rw [this]
  exact ⟨rfl, rfl⟩
theorem half_ob {t sp n : Int} (h0 : 0 ≤ t) (h1 : t ≤ 1000000) (h2 : 1 ≤ sp) (h3 : sp ≤ 8000) (hn : t + sp ≤ n) (u : Bool) : bk.lets (ob t sp u) n = !u ∧ bk.st (ob t sp u) n = 2 := by
  have := st_ob u h0 h1 h2 h3 n
  rw [if_neg (by omega)] at this
  unfold bk.lets ob
  rw [this]
  exact ⟨rfl, rfl⟩
theorem try_ob {t sp n : Int} (h0 : 0 ≤ t) (h1 : t ≤ 1000000) (h2 : 1 ≤ sp) (h3 : sp ≤ 8000) (hn : t + sp ≤ n) (hn0 : 0 ≤ n) (hn1 : n ≤ 1000000) : bk.tryb (ob t sp false) n = ob t sp true ∧ bk.tryE (ob t sp false) n = false ∧ bk.tryt (ob t sp false) n = true := by
  obtain ⟨l1, l2⟩ := half_ob h0 h1 h2 h3 hn false
  have htk : bk.tk n = true := bk.tk_t.2 ⟨hn0, by omega⟩
  have hE : bk.tryE (ob t sp false) n = false := by unfold bk.tryE; rw [htk, l1]; rfl
  refine ⟨?_, hE, ?_⟩
  · unfold bk.tryb
    rw [hE, l2]
    rfl
  · unfold bk.tryt
    rw [hE, l2]
    rfl
theorem ends_ob {t sp : Int} (h0 : 0 ≤ t) (h1 : t ≤ 1000000) (h2 : 1 ≤ sp) (h3 : sp ≤ 8000) : bk.backb (ob t sp true) true = ob t sp false ∧ bk.goodb (ob t sp true) true = bk.zb := by
  have hm := may_ob true h0 h1 h2 h3
  have he : bk.ends (ob t sp true) true = true := by unfold bk.ends ob; rw [hm]; rfl
  constructor
  · unfold bk.backb; rw [he]; rfl
  · unfold bk.goodb; rw [he]; rfl
theorem badtr_ob {n c : Int} (h2 : 1 ≤ c) (h3 : c ≤ 300) (h0 : 0 ≤ n) (h1 : n ≤ 1000000) (u : Bool) : bk.badb (ob 0 c true) n c true u = ob n (2 * c) false := by
  have hm := may_ob (t := 0) (k := c) true (by omega) (by omega) h2 (by omega)
  have he : bk.ends (ob 0 c true) true = true := by unfold bk.ends ob; rw [hm]; rfl
  have hE : bk.badE (ob 0 c true) n c = false := by
    unfold bk.badE ob
    rw [hm]
    have : bk.tk n = true := bk.tk_t.2 ⟨h0, by omega⟩
    rw [this, bk.ck_t.2 ⟨h2, by omega⟩]
    rfl
  unfold bk.badb
  rw [hE, he]
  show (⟨true, n, min (2 * c) (8 * c), false⟩ : bk.Bk) = ⟨true, n, 2 * c, false⟩
  rw [Int.min_eq_left (by omega)]
end

/-- behind a bad trial, i ticks later: the breaker, when the row is due next -/
def b4 (K : Nat) (i : Nat) : bk.Bk := ob (K : Int) (2 * (K : Int)) (decide (i = 2 * K))
def n4 (K : Nat) (i : Nat) : Int := if i = 0 then (K : Int) + 1000 else if i = 2 * K then 3 * (K : Int) + 1000 else 0
theorem sw_ticks4 {w0 w : World} {r q : Nat} {F K i : Nat} {wi : Nat} (h : SW w0 (F : Int) (K : Int) r q ((K : Int) + (i : Int)) wi (b4 K i) (n4 K i) w) (h1 : 1 ≤ K) (h3 : K ≤ 300) (hi : i < 2 * K) :
    Calls Try.prog 22 #[bp r, .int .i64 1] w fun e w' => (∃ v, e = .returned v) ∧ SW w0 (F : Int) (K : Int) r q ((K : Int) + ((i + 1 : Nat) : Int)) wi (b4 K (i + 1)) (n4 K (i + 1)) w' := by
  have hb : b4 K i = ob (K : Int) (2 * (K : Int)) false := by unfold b4; rw [decide_eq_false (by omega)]
  have hsum : (K : Int) + ((i + 1 : Nat) : Int) = (K : Int) + (i : Int) + 1 := by omega
  rw [hsum]
  refine sw_ticks h (by omega) (by omega) ?_
  rw [hb]
  by_cases hl : i + 1 = 2 * K
  · refine .inr ⟨?_, ?_, ?_, ?_⟩
    · rw [(half_ob (by omega) (by omega) (by omega) (by omega) (by omega) false).2]; rfl
    · unfold n4; rw [if_neg (by omega), if_neg (by omega)]; omega
    · rw [(try_ob (by omega) (by omega) (by omega) (by omega) (by omega) (by omega) (by omega)).1]
      unfold b4; rw [decide_eq_true hl]
    · unfold n4; rw [if_neg (by omega), if_pos hl]; omega
  · refine .inl ⟨?_, ?_, ?_⟩
    · rw [(lets_ob (by omega) (by omega) (by omega) (by omega) (by omega) false).2]; rfl
    · unfold b4; rw [decide_eq_false (by omega)]
    · unfold n4; rw [if_neg (by omega), if_neg hl]
theorem sw_lets4 {w0 w : World} {r q : Nat} {F K i : Nat} {wi : Nat} (h : SW w0 (F : Int) (K : Int) r q ((K : Int) + (i : Int)) wi (b4 K i) (n4 K i) w) (h1 : 1 ≤ K) (h3 : K ≤ 300) (hi : i < 2 * K) :
    Calls Try.prog 15 #[bp r, .int .i64 0] w fun e w' => e = .returned (.bool false) ∧ SW w0 (F : Int) (K : Int) r q ((K : Int) + (i : Int)) wi (b4 K i) (n4 K i) w' :=
  sw_lets h (by unfold b4; exact (lets_ob (by omega) (by omega) (by omega) (by omega) (by omega) _).1)
/-- while it is open, i ticks on -/
def t3 (K i : Nat) : Int := ((min i (K - 1) : Nat) : Int)

set_option maxRecDepth 100000 in
set_option maxHeartbeats 4000000 in
theorem shut_no (f k : Int) (a : Int) (A : Option Addr) (m c : Nat) (w : World) (h : f < 1 ∨ 8 < f ∨ k < 1 ∨ 300 < k) :
    Calls Try.prog 4 #[.int .i64 f, .int .i64 k, .int .u8 a, .slice A m c] w fun e w' => e = .returned (.bool true) ∧ Below w.heap.size w w' := by
  have HA := bk.Bx.mk (awake_any w)
  rcases (show f < 1 ∨ (¬ f < 1 ∧ 8 < f) ∨ (¬ f < 1 ∧ ¬ 8 < f ∧ k < 1) ∨ (¬ f < 1 ∧ ¬ 8 < f ∧ ¬ k < 1 ∧ 300 < k) by omega) with h1 | ⟨h1, h2⟩ | ⟨h1, h2, h3⟩ | ⟨h1, h2, h3, h4⟩
  all_goals
    clear h
    go_enter Try.func4, Try.ntmps4
    go_wp2_with fail
    refine HA.out.mono ?_
    rintro e w1 ⟨rfl, hb1⟩
    have HB1 := bk.Bx.mk hb1
    clear hb1 HA
    go_wp2_with fail
    go_ret
    exact ⟨rfl, HB1.out⟩

open Go.Sort (grow)
theorem wp_at {C : Code} {P : Program} {Q : Exit → Act → World → Prop} {a : Act} {w : World} (F : World → Prop) (hf : F w) (h : ∀ W, F W → C.wp P Q a W) : C.wp P Q a w := h w hf
theorem grew_grow (w : World) (n : Nat) (os : Array Obj) : bk.Grew w (grow (w.drewN n) os) := ⟨n, os, rfl⟩
theorem grown_call {P : Program} {f : FuncId} {args : Array Value} {v : Value} (h : ∀ w, Calls P f args w fun e w' => e = .returned v ∧ bk.Grew w w') (W : World) (n : Nat) (os : Array Obj) :
    Calls P f args (grow (W.drewN n) os) fun e w'' => e = .returned v ∧ ∃ p : GrownBy, w'' = grow (W.drewN p.n) p.os :=
  Calls.grown_of ((h _).mono fun e w' ⟨he, hg⟩ => ⟨he, hg.ex⟩)
theorem sw_now_at {w0 w : World} {f k : Int} {r q : Nat} {t : Int} {wi : Nat} {br : bk.Bk} {nx : Int} (h : SW w0 f k r q t wi br nx w) (n : Nat) (os : Array Obj) :
    Calls Try.prog 12 #[bp r] (grow (w.drewN n) os) fun e w'' => e = .returned (.int .i64 t) ∧ ∃ p : GrownBy, w'' = grow (w.drewN p.n) p.os :=
  (sw_now (h.below (grew_grow w n os).below)).mono fun e w' ⟨he, hw⟩ => ⟨he, ⟨n, os⟩, hw⟩
structure LaysG (w : World) (g : Nat) (b : bk.Bk) : Prop where
  at_ : ∀ n os, bk.Lays (grow (w.drewN n) os) g b
theorem laysG_box (w : World) (b : bk.Bk) : LaysG (w.alloc (.cells #[.bool b.op, .int .i64 b.si, .int .i64 b.sp, .bool b.tr] 43)) w.heap.size b := ⟨fun n os => (bk.lays_box w b).grew (grew_grow _ n os)⟩

set_option maxRecDepth 100000 in
set_option maxHeartbeats 16000000 in
theorem shut_yes (F K : Nat) (a : Int) (A : Option Addr) (c : Nat) (l : List Bool) (w : World) (hr : pl.RowAt w (fun g => g < w.heap.size) A (pl.BV l)) (ha0 : 0 ≤ a) (ha1 : a < 256) (hF1 : 1 ≤ F) (hF8 : F ≤ 8) (hK1 : 1 ≤ K) (hK3 : K ≤ 300) :
    Calls Try.prog 4 #[.int .i64 (F : Int), .int .i64 (K : Int), .int .u8 a, .slice A l.length c] w fun e w' => e = .returned (.bool true) ∧ Below w.heap.size w w' := by
  have HA := bk.Bx.mk (awake_any w)
  have HR := bk.Bx.mk hr
  have HO := bk.Bx.mk (fun W => show Calls Try.prog 21 #[.int .i64 1, .int .i64 (F : Int), .int .i64 (K : Int), .int .i64 1000] W (OfPost 1 (F : Int) (K : Int) 1000 W) from of_any 1 (F : Int) (K : Int) 1000 W (by omega))
  have HN := bk.Bx.mk (fun (W W1 : World) (A' : Option Addr) (c' : Nat) (hb : Below W.heap.size W W1) (hp : PasAt W1 (fun g => W.heap.size ≤ g ∧ g < W1.heap.size) A' (pasOf 1)) => aw_new 1 (F : Int) (K : Int) 1000 W A' c' hb hp (by
    rw [fitb_t]
    refine ⟨by show (pasOf 1).length ≤ 16; rw [pasOf_len]; omega, ?_⟩
    show (1 : Int) ≤ (F : Int) ∧ (F : Int) ≤ 8 ∧ (1 : Int) ≤ (K : Int) ∧ (K : Int) ≤ 1000 ∧ (1 : Int) ≤ 1000 ∧ (1000 : Int) ≤ 1000
    omega))
  have HST0 := bk.Bx.mk (fun (A' : Option Addr) (c' : Nat) => Sh.start (F : Int) (K : Int) A' c')
  clear hr
  obtain ⟨m, hm⟩ : ∃ m, l.length = m := ⟨_, rfl⟩
  have HM := bk.Bx.mk hm
  rw [hm]
  clear hm
  obtain ⟨a9, ha9⟩ : ∃ a9 : Nat, a % 9 = (a9 : Int) := ⟨(a % 9).toNat, by omega⟩
  have ha98 : a9 ≤ 8 := by omega
  have hf1 : ¬ (F : Int) < 1 := by omega
  have hf2 : ¬ (8 : Int) < (F : Int) := by omega
  have hf3 : ¬ (K : Int) < 1 := by omega
  have hf4 : ¬ (300 : Int) < (K : Int) := by omega
  go_enter Try.func4, Try.ntmps4
  go_wp2_with fail
  refine HA.out.mono ?_
  rintro e w1 ⟨rfl, hb1⟩
  have HB1 := bk.Bx.mk hb1
  clear hb1 HA
  go_wp2_with fail
  refine (HO.out w1).mono ?_
  rintro e w2 ⟨⟨A', c', rfl, hp⟩, hb2⟩
  have KN := bk.Bx.mk (HN.out w1 w2 A' c' hb2 hp)
  have HS2 := bk.Bx.mk (HST0.out A' c')
  clear hp hb2 HO HN HST0
  generalize (cfOf 1 (F : Int) (K : Int) 1000 A' c').v = cv at *
  generalize HD.new (cfOf 1 (F : Int) (K : Int) 1000 A' c') = D0 at *
  go_wp2_with fail
  refine KN.out.mono ?_
  rintro e w3 ⟨r, q, rfl, h3⟩
  have H3 : bk.Bx (SW w1 (F : Int) (K : Int) r q 0 (crs 0 0) bk.zb 0 w3) := ⟨⟨D0, HS2.out, h3⟩⟩
  clear h3 KN HS2
  go_wp2_with fail
  go_loopw [11] (fun s11 wr => ∃ j : Nat, j ≤ a9 ∧ s11 = .int .i64 j ∧ bk.Bx (SW w1 (F : Int) (K : Int) r q 0 (crs j 0) bk.zb 0 wr)) (fun s11 _ => a9 - (intOf s11).toNat)
  case atStart => exact ⟨0, by omega, rfl, H3⟩
  case round =>
    clear H3
    obtain ⟨j, hj, rfl, H1⟩ := hrel
    by_cases hj9 : j < a9
    · have KG := bk.Bx.mk (sw_good_cl H1.out (crs_lt j 0))
      rw [crs_good] at KG
      clear H1
      go_wp2_with fail
      refine KG.out.mono ?_
      rintro e w4 ⟨rfl, h4⟩
      have H4 := bk.Bx.mk h4
      clear h4 KG
      go_wp2_with fail
      go_roundw
      case rel => exact ⟨j + 1, by omega, by go_num, H4⟩
      case measure => simp [intOf]; omega
    · obtain rfl : j = a9 := by omega
      have H5 : bk.Bx (SW w1 (F : Int) (K : Int) r q 0 (crs j 0) (brAt F K 0) 0 wr) := by rw [brAt_lt (by omega)]; exact H1
      clear H1
      go_wp2_with fail
      clear ha9
      go_loopw [12] (fun s12 wr => ∃ i : Nat, i ≤ F ∧ s12 = .int .i64 i ∧ bk.Bx (SW w1 (F : Int) (K : Int) r q 0 (crs j i) (brAt F K i) 0 wr)) (fun s12 _ => F - (intOf s12).toNat)
      case atStart => exact ⟨0, by omega, rfl, H5⟩
      case round =>
        clear H5
        obtain ⟨i, hi, rfl, H6⟩ := hrel
        by_cases hiF : i < F
        · have KL := bk.Bx.mk (sw_lets H6.out (v := true) (by rw [brAt_lt hiF]; unfold bk.lets; rw [bk.st_cl rfl]; rfl))
          clear H6
          go_wp2_with fail
          refine KL.out.mono ?_
          rintro e w4 ⟨rfl, h4⟩
          have KB := bk.Bx.mk (sw_bad_cl h4 hiF hF8 ha98 hK1 hK3)
          clear h4 KL
          go_wp2_with fail
          refine KB.out.mono ?_
          rintro e w5 ⟨rfl, h5⟩
          have H7 := bk.Bx.mk h5
          clear h5 KB
          go_wp2_with fail
          go_roundw
          case rel => exact ⟨i + 1, by omega, by go_num, H7⟩
          case measure => simp [intOf]; omega
        · obtain rfl : i = F := by omega
          have H8 : bk.Bx (SW w1 (i : Int) (K : Int) r q (t3 K 0) (crs j i) (ob 0 K false) 0 wr) := by
            rw [brAt_end] at H6
            exact H6
          have HW0 := bk.Bx.mk (crs_lt j i)
          generalize crs j i = wi at *
          clear H6 ha98
          go_wp2_with fail
          have ht3 : ∀ i, i < K → t3 K i = (i : Int) := fun i hi => by unfold t3; rw [Nat.min_eq_left (by omega)]
          have HST : bk.Bx (∀ i, i < K → bk.st (ob 0 (K : Int) false) (t3 K i) = 1) := ⟨fun i hi => by rw [ht3 i hi]; exact (lets_ob (by omega) (by omega) (by omega) (by omega) (by omega) false).2⟩
          have HLE : bk.Bx (∀ i, i < K → bk.lets (ob 0 (K : Int) false) (t3 K i) = false) := ⟨fun i hi => by rw [ht3 i hi]; exact (lets_ob (by omega) (by omega) (by omega) (by omega) (by omega) false).1⟩
          have HTK : bk.Bx (∀ i2, i2 < K - 1 → ∀ W, SW w1 (i : Int) (K : Int) r q (t3 K i2) wi (ob 0 K false) 0 W → Calls Try.prog 11 #[bp r] W fun e w' => (∃ A' c', e = .returned (.slice A' 0 c')) ∧ SW w1 (i : Int) (K : Int) r q (t3 K (i2 + 1)) wi (ob 0 K false) 0 w') := ⟨fun i2 hi2 W h => by
            rw [ht3 i2 (by omega)] at h
            rw [ht3 (i2 + 1) (by omega)]
            have h9 := sw_tick_no h (by omega) (by omega) (by rw [(lets_ob (by omega) (by omega) (by omega) (by omega) (by omega) false).2]; rfl)
            rw [show ((i2 + 1 : Nat) : Int) = (i2 : Int) + 1 by omega]
            exact h9⟩
          have HTE : bk.Bx (∀ i2, i2 < K → ¬ i2 < K - 1 → ∀ W, SW w1 (i : Int) (K : Int) r q (t3 K i2) wi (ob 0 K false) 0 W → SW w1 (i : Int) (K : Int) r q (t3 K (i2 + 1)) wi (ob 0 K false) 0 W) := ⟨fun i2 hi2 hi3 W h => by
            have e : t3 K (i2 + 1) = t3 K i2 := by unfold t3; rw [Nat.min_eq_right (by omega), Nat.min_eq_right (by omega)]
            rw [e]; exact h⟩
          clear ht3
          go_loopw [13] (fun s13 wr => ∃ i2 : Nat, i2 ≤ K ∧ s13 = .int .i64 i2 ∧ bk.Bx (SW w1 (i : Int) (K : Int) r q (t3 K i2) wi (ob 0 K false) 0 wr)) (fun s13 _ => K - (intOf s13).toNat)
          case atStart => exact ⟨0, by omega, rfl, H8⟩
          case round =>
            clear H8
            obtain ⟨i2, hi2, rfl, HZ0⟩ := hrel
            by_cases hiK : i2 < K
            · have KL := bk.Bx.mk (sw_lets HZ0.out (HLE.out i2 hiK))
              clear HZ0
              go_wp2_with fail
              refine KL.out.mono ?_
              rintro e w4 ⟨rfl, h4⟩
              have HZ := bk.Bx.mk h4
              have hbw : Below w.heap.size w w4 := HB1.out.trans (h4.keep.mono HB1.out.size)
              clear h4 KL
              by_cases him : i2 < m
              · obtain ⟨x, hx⟩ : ∃ x, l[i2]? = some x := ⟨_, List.getElem?_eq_getElem (by rw [HM.out]; exact him)⟩
                obtain ⟨g, off, hA, hg, hc⟩ := (HR.out.below hbw (fun g hg => hg)).cell (pl.BV_get hx)
                subst hA
                clear hx hbw
                cases x with
                | true =>
                  have K5 := bk.Bx.mk (sw_good_op HZ.out HW0.out (by rw [HST.out i2 hiK]; decide))
                  go_wp2_with fail
                  refine K5.out.mono ?_
                  rintro e wg ⟨rfl, hg5⟩
                  have HG := bk.Bx.mk hg5
                  clear hg5 HZ K5 hc
                  by_cases hk1 : i2 < K - 1
                  · have hk2 : (i2 : Int) < (K : Int) - 1 := by omega
                    have KT := bk.Bx.mk (HTK.out i2 hk1 _ HG.out)
                    go_wp2_with fail
                    refine KT.out.mono ?_
                    rintro e wt ⟨⟨At, ct, rfl⟩, ht⟩
                    have HT := bk.Bx.mk ht
                    clear ht HG KT
                    go_wp2_with fail
                    go_roundw
                    case rel => exact ⟨i2 + 1, by omega, by go_num, HT⟩
                    case measure => simp [intOf]; omega
                  · have hk2 : ¬ (i2 : Int) < (K : Int) - 1 := by omega
                    have HG2 := bk.Bx.mk (HTE.out i2 hiK hk1 _ HG.out)
                    clear HG
                    go_wp2_with fail
                    go_roundw
                    case rel => exact ⟨i2 + 1, by omega, by go_num, HG2⟩
                    case measure => simp [intOf]; omega
                | false =>
                  have K5 := bk.Bx.mk (sw_bad_op HZ.out HW0.out (by rw [HST.out i2 hiK]; decide))
                  go_wp2_with fail
                  refine K5.out.mono ?_
                  rintro e wg ⟨rfl, hg5⟩
                  have HG := bk.Bx.mk hg5
                  clear hg5 HZ K5 hc
                  by_cases hk1 : i2 < K - 1
                  · have hk2 : (i2 : Int) < (K : Int) - 1 := by omega
                    have KT := bk.Bx.mk (HTK.out i2 hk1 _ HG.out)
                    go_wp2_with fail
                    refine KT.out.mono ?_
                    rintro e wt ⟨⟨At, ct, rfl⟩, ht⟩
                    have HT := bk.Bx.mk ht
                    clear ht HG KT
                    go_wp2_with fail
                    go_roundw
                    case rel => exact ⟨i2 + 1, by omega, by go_num, HT⟩
                    case measure => simp [intOf]; omega
                  · have hk2 : ¬ (i2 : Int) < (K : Int) - 1 := by omega
                    have HG2 := bk.Bx.mk (HTE.out i2 hiK hk1 _ HG.out)
                    clear HG
                    go_wp2_with fail
                    go_roundw
                    case rel => exact ⟨i2 + 1, by omega, by go_num, HG2⟩
                    case measure => simp [intOf]; omega
              · have HG := HZ
                clear HZ hbw
                by_cases hk1 : i2 < K - 1
                · have hk2 : (i2 : Int) < (K : Int) - 1 := by omega
                  have KT := bk.Bx.mk (HTK.out i2 hk1 _ HG.out)
                  go_wp2_with fail
                  refine KT.out.mono ?_
                  rintro e wt ⟨⟨At, ct, rfl⟩, ht⟩
                  have HT := bk.Bx.mk ht
                  clear ht HG KT
                  go_wp2_with fail
                  go_roundw
                  case rel => exact ⟨i2 + 1, by omega, by go_num, HT⟩
                  case measure => simp [intOf]; omega
                · have hk2 : ¬ (i2 : Int) < (K : Int) - 1 := by omega
                  have HG2 := bk.Bx.mk (HTE.out i2 hiK hk1 _ HG.out)
                  clear HG
                  go_wp2_with fail
                  go_roundw
                  case rel => exact ⟨i2 + 1, by omega, by go_num, HG2⟩
                  case measure => simp [intOf]; omega
            · obtain rfl : i2 = K := by omega
              have hti : t3 i2 i2 = (i2 : Int) - 1 := by unfold t3; rw [Nat.min_eq_right (by omega)]; omega
              have hZ := HZ0.out
              rw [hti] at hZ
              have hT := sw_tick_yes hZ (by omega) (by omega) (by rw [show (i2 : Int) - 1 + 1 = (i2 : Int) by omega, (half_ob (by omega) (by omega) (by omega) (by omega) (by omega) false).2]; rfl) (by omega)
              rw [show (i2 : Int) - 1 + 1 = (i2 : Int) by omega, (try_ob (by omega) (by omega) (by omega) (by omega) (by omega) (by omega) (by omega)).1] at hT
              have KT := bk.Bx.mk hT
              clear HZ0 hZ hT hti HTK HTE HST HLE
              go_wp2_with fail
              refine KT.out.mono ?_
              rintro e wt ⟨⟨gt, offt, ct, rfl, hct⟩, ht⟩
              have KL := bk.Bx.mk (sw_lets ht (v := false) (half_ob (by omega) (by omega) (by omega) (by omega) (by omega) true).1)
              clear ht KT
              go_wp2_with fail
              refine KL.out.mono ?_
              rintro e wt2 ⟨rfl, ht2⟩
              have hbk := sw_back ht2
              rw [(ends_ob (by omega) (by omega) (by omega) (by omega)).1] at hbk
              have KK := bk.Bx.mk hbk
              clear ht2 KL hct hbk
              go_wp2_with fail
              refine KK.out.mono ?_
              rintro e wt3 ⟨rfl, ht3⟩
              have KL := bk.Bx.mk (sw_lets ht3 (v := true) (half_ob (by omega) (by omega) (by omega) (by omega) (by omega) false).1)
              clear ht3 KK
              go_wp2_with fail
              refine KL.out.mono ?_
              rintro e wt4 ⟨rfl, ht4⟩
              have htry := try_ob (t := 0) (sp := (i2 : Int)) (n := (i2 : Int)) (by omega) (by omega) (by omega) (by omega) (by omega) (by omega) (by omega)
              have hty := sw_try ht4 htry.2.2 htry.2.1
              rw [htry.1] at hty
              have KT := bk.Bx.mk hty
              clear ht4 KL htry hty
              go_wp2_with fail
              refine KT.out.mono ?_
              rintro e wt5 ⟨rfl, ht5⟩
              have KL := bk.Bx.mk (sw_lets ht5 (v := false) (half_ob (by omega) (by omega) (by omega) (by omega) (by omega) true).1)
              clear ht5 KT
              go_wp2_with fail
              refine KL.out.mono ?_
              rintro e wt6 ⟨rfl, ht6⟩
              have H6 := bk.Bx.mk ht6
              have hbw : Below w.heap.size w wt6 := HB1.out.trans (ht6.keep.mono HB1.out.size)
              clear ht6 KL
              have hsplit : (∃ x, l[0]? = some x ∧ 0 < m) ∨ m = 0 := by
                rcases Nat.eq_zero_or_pos m with h0 | h0
                · exact .inr h0
                · exact .inl ⟨_, List.getElem?_eq_getElem (by rw [HM.out]; exact h0), h0⟩
              rcases hsplit with ⟨x, hx, hm0⟩ | hm0
              · obtain ⟨g, off, hA, hg, hc⟩ := (HR.out.below hbw (fun g hg => hg)).cell (pl.BV_get hx)
                rw [Nat.add_zero] at hc
                subst hA
                clear hx hbw
                cases x with
                | true =>
                  have hgd := sw_good_tr H6.out HW0.out rfl
                  rw [(ends_ob (by omega) (by omega) (by omega) (by omega)).2] at hgd
                  have KG := bk.Bx.mk hgd
                  clear H6 hgd
                  go_wp2_with fail
                  refine KG.out.mono ?_
                  rintro e wu ⟨rfl, hu⟩
                  have KL := bk.Bx.mk (sw_lets hu (v := true) (by unfold bk.lets; rw [bk.st_cl rfl]; rfl))
                  clear hu KG hc
                  go_wp2_with fail
                  refine KL.out.mono ?_
                  rintro e wv ⟨rfl, hv⟩
                  have HB := bk.Bx.mk (HB1.out.trans (hv.keep.mono HB1.out.size))
                  clear hv KL
                  go_wp2_with fail
                  go_ret
                  exact ⟨rfl, HB.out⟩
                | false =>
                  have hbd := sw_bad_tr H6.out HW0.out rfl
                  rw [badtr_ob (by omega) (by omega) (by omega) (by omega)] at hbd
                  have KB := bk.Bx.mk hbd
                  clear H6 hbd
                  go_wp2_with fail
                  refine KB.out.mono ?_
                  rintro e wu ⟨rfl, hu⟩
                  have HY : bk.Bx (SW w1 (i : Int) (i2 : Int) r q ((i2 : Int) + ((0 : Nat) : Int)) wi (b4 i2 0) (n4 i2 0) wu) := ⟨by
                    have e0 : (i2 : Int) + ((0 : Nat) : Int) = (i2 : Int) := by omega
                    have e1 : b4 i2 0 = ob (i2 : Int) (2 * (i2 : Int)) false := by unfold b4; rw [decide_eq_false (by omega)]
                    have e2 : n4 i2 0 = (i2 : Int) + 1000 := by unfold n4; rw [if_pos rfl]
                    rw [e0, e1, e2]
                    exact hu⟩
                  clear hu KB hc
                  go_wp2_with fail
                  go_loopw [17] (fun s17 wr => ∃ i4 : Nat, i4 ≤ 2 * i2 ∧ s17 = .int .i64 i4 ∧ bk.Bx (SW w1 (i : Int) (i2 : Int) r q ((i2 : Int) + (i4 : Int)) wi (b4 i2 i4) (n4 i2 i4) wr)) (fun s17 _ => 2 * i2 - (intOf s17).toNat)
                  case atStart => exact ⟨0, by omega, rfl, HY⟩
                  case round =>
                    clear HY
                    obtain ⟨i4, hi4, rfl, HX⟩ := hrel
                    by_cases h4K : i4 < 2 * i2
                    · have h4z : (i4 : Int) < 2 * (i2 : Int) := by omega
                      have KL := bk.Bx.mk (sw_lets4 HX.out hK1 hK3 h4K)
                      clear HX
                      go_wp2_with fail
                      refine KL.out.mono ?_
                      rintro e wa ⟨rfl, ha⟩
                      have KT := bk.Bx.mk (sw_ticks4 ha hK1 hK3 h4K)
                      clear ha KL
                      go_wp2_with fail
                      refine KT.out.mono ?_
                      rintro e wb ⟨⟨vb, rfl⟩, hb⟩
                      have HX := bk.Bx.mk hb
                      clear hb KT
                      go_wp2_with fail
                      go_roundw
                      case rel => exact ⟨i4 + 1, by omega, by go_num, HX⟩
                      case measure => simp [intOf]; omega
                    · obtain rfl : i4 = 2 * i2 := by omega
                      have h4z : ¬ ((2 * i2 : Nat) : Int) < 2 * (i2 : Int) := by omega
                      have hbb : b4 i2 (2 * i2) = ob (i2 : Int) (2 * (i2 : Int)) true := by unfold b4; rw [decide_eq_true rfl]
                      have hX := HX.out
                      rw [hbb] at hX
                      have KT : bk.Bx (Calls Try.prog 9 #[bp r, .int .i64 0] wr fun e w' => e = .returned (.tuple #[.int .u16 (wi : Int), .agg #[.bool true, .int .i64 (i2 : Int), .int .i64 (2 * (i2 : Int)), .bool true]]) ∧ SW w1 (i : Int) (i2 : Int) r q ((i2 : Int) + ((2 * i2 : Nat) : Int)) wi (ob (i2 : Int) (2 * (i2 : Int)) true) (n4 i2 (2 * i2)) w') := ⟨sw_tells hX⟩
                      have HS : bk.Bx (∀ W, Calls Try.prog 23 #[.agg #[.bool true, .int .i64 (i2 : Int), .int .i64 (2 * (i2 : Int)), .bool true], .int .i64 ((i2 : Int) + ((2 * i2 : Nat) : Int))] W (bk.Gv (.int .u8 2) W)) := ⟨fun W => by
                        have h := bk.state_any (ob (i2 : Int) (2 * (i2 : Int)) true) ((i2 : Int) + ((2 * i2 : Nat) : Int)) W
                        rw [(half_ob (by omega) (by omega) (by omega) (by omega) (by omega) true).2] at h
                        exact h⟩
                      clear hX hbb HX
                      generalize (i2 : Int) + ((2 * i2 : Nat) : Int) = tz at *
                      generalize n4 i2 (2 * i2) = nz at *
                      go_wp2_with fail
                      refine KT.out.mono ?_
                      rintro e wc ⟨rfl, hc⟩
                      have HC := bk.Bx.mk (hc.below ((Below.refl _ wc).alloc (Nat.le_refl _) (.cells #[.bool true, .int .i64 (i2 : Int), .int .i64 (2 * (i2 : Int)), .bool true] 43)))
                      clear hc KT
                      go_wp2_with fail
                      refine wp_at (fun W => LaysG W wc.heap.size ⟨true, (i2 : Int), 2 * (i2 : Int), true⟩ ∧ bk.Bx (SW w1 (i : Int) (i2 : Int) r q tz wi (ob (i2 : Int) (2 * (i2 : Int)) true) nz W)) ⟨laysG_box wc ⟨true, (i2 : Int), 2 * (i2 : Int), true⟩, HC⟩ ?_
                      clear HC
                      rintro W ⟨⟨L⟩, HC⟩
                      have c0 := fun n os => (L n os).c0
                      have c1 := fun n os => (L n os).c1
                      have c2 := fun n os => (L n os).c2
                      have c3 := fun n os => (L n os).c3
                      have HNw := bk.Bx.mk (fun n os => sw_now_at HC.out n os)
                      have hmix : Try.prog.follows .mixedOrders = true := by kernel_rfl
                      clear L
                      go_quiet_grown (first
                        | (go_at_call 12; exact HNw.out _ _)
                        | (go_at_call 23; exact grown_call HS.out _ _ _))
                      have HB := bk.Bx.mk (HB1.out.trans ((HC.out.below (grew_grow W nq osq).below).keep.mono HB1.out.size))
                      generalize grow (W.drewN nq) osq = W2 at *
                      clear c0 c1 c2 c3 HNw HC
                      go_wp2_with fail
                      go_ret
                      exact ⟨rfl, HB.out⟩
              · subst hm0
                have hbd := sw_bad_tr H6.out HW0.out rfl
                rw [badtr_ob (by omega) (by omega) (by omega) (by omega)] at hbd
                have KB := bk.Bx.mk hbd
                clear H6 hbd hbw
                go_wp2_with fail
                refine KB.out.mono ?_
                rintro e wu ⟨rfl, hu⟩
                have HY : bk.Bx (SW w1 (i : Int) (i2 : Int) r q ((i2 : Int) + ((0 : Nat) : Int)) wi (b4 i2 0) (n4 i2 0) wu) := ⟨by
                  have e0 : (i2 : Int) + ((0 : Nat) : Int) = (i2 : Int) := by omega
                  have e1 : b4 i2 0 = ob (i2 : Int) (2 * (i2 : Int)) false := by unfold b4; rw [decide_eq_false (by omega)]
                  have e2 : n4 i2 0 = (i2 : Int) + 1000 := by unfold n4; rw [if_pos rfl]
                  rw [e0, e1, e2]
                  exact hu⟩
                clear hu KB
                go_wp2_with fail
                go_loopw [17] (fun s17 wr => ∃ i4 : Nat, i4 ≤ 2 * i2 ∧ s17 = .int .i64 i4 ∧ bk.Bx (SW w1 (i : Int) (i2 : Int) r q ((i2 : Int) + (i4 : Int)) wi (b4 i2 i4) (n4 i2 i4) wr)) (fun s17 _ => 2 * i2 - (intOf s17).toNat)
                case atStart => exact ⟨0, by omega, rfl, HY⟩
                case round =>
                  clear HY
                  obtain ⟨i4, hi4, rfl, HX⟩ := hrel
                  by_cases h4K : i4 < 2 * i2
                  · have h4z : (i4 : Int) < 2 * (i2 : Int) := by omega
                    have KL := bk.Bx.mk (sw_lets4 HX.out hK1 hK3 h4K)
                    clear HX
                    go_wp2_with fail
                    refine KL.out.mono ?_
                    rintro e wa ⟨rfl, ha⟩
                    have KT := bk.Bx.mk (sw_ticks4 ha hK1 hK3 h4K)
                    clear ha KL
                    go_wp2_with fail
                    refine KT.out.mono ?_
                    rintro e wb ⟨⟨vb, rfl⟩, hb⟩
                    have HX := bk.Bx.mk hb
                    clear hb KT
                    go_wp2_with fail
                    go_roundw
                    case rel => exact ⟨i4 + 1, by omega, by go_num, HX⟩
                    case measure => simp [intOf]; omega
                  · obtain rfl : i4 = 2 * i2 := by omega
                    have h4z : ¬ ((2 * i2 : Nat) : Int) < 2 * (i2 : Int) := by omega
                    have hbb : b4 i2 (2 * i2) = ob (i2 : Int) (2 * (i2 : Int)) true := by unfold b4; rw [decide_eq_true rfl]
                    have hX := HX.out
                    rw [hbb] at hX
                    have KT : bk.Bx (Calls Try.prog 9 #[bp r, .int .i64 0] wr fun e w' => e = .returned (.tuple #[.int .u16 (wi : Int), .agg #[.bool true, .int .i64 (i2 : Int), .int .i64 (2 * (i2 : Int)), .bool true]]) ∧ SW w1 (i : Int) (i2 : Int) r q ((i2 : Int) + ((2 * i2 : Nat) : Int)) wi (ob (i2 : Int) (2 * (i2 : Int)) true) (n4 i2 (2 * i2)) w') := ⟨sw_tells hX⟩
                    have HS : bk.Bx (∀ W, Calls Try.prog 23 #[.agg #[.bool true, .int .i64 (i2 : Int), .int .i64 (2 * (i2 : Int)), .bool true], .int .i64 ((i2 : Int) + ((2 * i2 : Nat) : Int))] W (bk.Gv (.int .u8 2) W)) := ⟨fun W => by
                      have h := bk.state_any (ob (i2 : Int) (2 * (i2 : Int)) true) ((i2 : Int) + ((2 * i2 : Nat) : Int)) W
                      rw [(half_ob (by omega) (by omega) (by omega) (by omega) (by omega) true).2] at h
                      exact h⟩
                    clear hX hbb HX
                    generalize (i2 : Int) + ((2 * i2 : Nat) : Int) = tz at *
                    generalize n4 i2 (2 * i2) = nz at *
                    go_wp2_with fail
                    refine KT.out.mono ?_
                    rintro e wc ⟨rfl, hc⟩
                    have HC := bk.Bx.mk (hc.below ((Below.refl _ wc).alloc (Nat.le_refl _) (.cells #[.bool true, .int .i64 (i2 : Int), .int .i64 (2 * (i2 : Int)), .bool true] 43)))
                    clear hc KT
                    go_wp2_with fail
                    refine wp_at (fun W => LaysG W wc.heap.size ⟨true, (i2 : Int), 2 * (i2 : Int), true⟩ ∧ bk.Bx (SW w1 (i : Int) (i2 : Int) r q tz wi (ob (i2 : Int) (2 * (i2 : Int)) true) nz W)) ⟨laysG_box wc ⟨true, (i2 : Int), 2 * (i2 : Int), true⟩, HC⟩ ?_
                    clear HC
                    rintro W ⟨⟨L⟩, HC⟩
                    have c0 := fun n os => (L n os).c0
                    have c1 := fun n os => (L n os).c1
                    have c2 := fun n os => (L n os).c2
                    have c3 := fun n os => (L n os).c3
                    have HNw := bk.Bx.mk (fun n os => sw_now_at HC.out n os)
                    have hmix : Try.prog.follows .mixedOrders = true := by kernel_rfl
                    clear L
                    go_quiet_grown (first
                      | (go_at_call 12; exact HNw.out _ _)
                      | (go_at_call 23; exact grown_call HS.out _ _ _))
                    have HB := bk.Bx.mk (HB1.out.trans ((HC.out.below (grew_grow W nq osq).below).keep.mono HB1.out.size))
                    generalize grow (W.drewN nq) osq = W2 at *
                    clear c0 c1 c2 c3 HNw HC
                    go_wp2_with fail
                    go_ret
                    exact ⟨rfl, HB.out⟩

theorem shut_walk (f k : Int) (a : Int) (A : Option Addr) (c : Nat) (l : List Bool) (w : World) (ha : 0 ≤ a ∧ a < 256) (hr : pl.RowAt w (fun g => g < w.heap.size) A (pl.BV l)) :
    Calls Try.prog 4 #[.int .i64 f, .int .i64 k, .int .u8 a, .slice A l.length c] w fun e w' => e = .returned (.bool true) ∧ Below w.heap.size w w' := by
  by_cases h : f < 1 ∨ 8 < f ∨ k < 1 ∨ 300 < k
  · exact shut_no f k a A l.length c w h
  · obtain ⟨F, rfl⟩ : ∃ F : Nat, f = (F : Int) := ⟨f.toNat, by omega⟩
    obtain ⟨K, rfl⟩ : ∃ K : Nat, k = (K : Int) := ⟨k.toNat, by omega⟩
    exact shut_yes F K a A c l w hr ha.1 ha.2 (by omega) (by omega) (by omega) (by omega)
end Go.Proofs.Ytpidjekabnnmcaa.hp
