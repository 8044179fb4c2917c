/-
  Given for the seat's laws: the contract of take: the table turned to a configuration. No condition but those of the theorems.
-/
import Derived.Test.YtpidjekabnnmcaaHTake0
namespace Go.Proofs.Ytpidjekabnnmcaa.hp
open Go.RowKit mem find pb
set_option linter.unusedVariables false

def s0of (D : HD) : TS := ⟨D.R, [], D.last, D.Q⟩
def tsOf (D : HD) (ps : List PK) : TS := ps.foldl tstep (s0of D)
def HD.take (D : HD) (d : CfD) : HD :=
  { D with fails := d.fails, cool := d.cool, R := (tsOf D (d.ps.map PaD.pk)).out, last := (tsOf D (d.ps.map PaD.pk)).last, Q := dropsOf (tsOf D (d.ps.map PaD.pk)).left (tsOf D (d.ps.map PaD.pk)).Q }
theorem fold_snoc {ps : List PaD} {j : Nat} {x : PaD} (D : HD) (h : ps[j]? = some x) : tsOf D ((ps.take (j + 1)).map PaD.pk) = tstep (tsOf D ((ps.take j).map PaD.pk)) x.pk := by
  unfold tsOf
  rw [List.take_add_one, h]
  simp [List.foldl_append]
theorem tok_all {D : HD} (h1 : D.R.length ≤ 16) (h2 : 0 ≤ D.last) (h3 : D.Q.length ≤ 16) (h4 : ∀ x ∈ D.Q, x.1 ≤ D.last) (ps : List PaD) : ∀ j, j ≤ ps.length → TOk D j (tsOf D ((ps.take j).map PaD.pk)) := by
  intro j
  induction j with
  | zero => intro _; exact ⟨rfl, h1, h2, by simp [tsOf, s0of], by simpa [tsOf, s0of] using h3, by simpa [tsOf, s0of] using h4⟩
  | succ j ih =>
    intro hj
    obtain ⟨x, hx⟩ : ∃ x, ps[j]? = some x := ⟨_, List.getElem?_eq_getElem (by omega)⟩
    rw [fold_snoc D hx]
    exact tok_step (ih (by omega)) _
theorem drops_snoc {l : List RD} {j : Nat} {x : RD} (Q : List (Int × Int)) (h : l[j]? = some x) : dropsOf (l.take (j + 1)) Q = dropK x.key (dropsOf (l.take j) Q) := by
  unfold dropsOf
  rw [List.take_add_one, h]
  simp [List.foldl_append]

/-- what take leaves -/
structure TakePost (S : Nat → Prop) (r : Nat) (D' : HD) (q : Nat) (w : World) (e : Ending) (w' : World) : Prop where
  eq : e = .returned (.tuple #[])
  ex : ∃ A' c' bs', Hx w' (fun g => S g ∨ w.heap.size ≤ g) r D' A' c' q bs'
  keep : Keep w.heap.size S w w'
section
variable {w : World} {S : Nat → Prop} {r c q : Nat} {D : HD} {A : Option Addr} {bs : List Nat}
/-- where the loop begins -/
theorem tm_start (h : Hx w S r D A c q bs) (f k : Int) {w1 : World} (hb : Below w.heap.size w w1) :
    TM w S r q { D with fails := f, cool := k } A c (s0of D) (((w1.drew.setCell ⟨r, 2, none⟩ (.int .i64 f)).setCell ⟨r, 3, none⟩ (.int .i64 k)).setCell ⟨r, 4, none⟩ (.slice none 0 0)) := by
  have h1 := (h.below hb).below ((Below.refl w1.heap.size w1).drew)
  have far : ∀ g, g ≠ r → (((w1.drew.setCell ⟨r, 2, none⟩ (.int .i64 f)).setCell ⟨r, 3, none⟩ (.int .i64 k)).setCell ⟨r, 4, none⟩ (.slice none 0 0)).heap[g]? = w1.drew.heap[g]? := fun g hg =>
    (Below.heap_setCell _ _ _ _ (by exact hg)).trans ((Below.heap_setCell _ _ _ _ (by exact hg)).trans (Below.heap_setCell _ _ _ _ (by exact hg)))
  have frow : ∀ g, rowOf A = some g → g ≠ r := fun g e => prow_apart h1.row e h1.hd (by decide)
  have frec : ∀ b, b ∈ bs → b ≠ r := fun b hb2 => by
    obtain ⟨x, hl⟩ := h1.recs.lies hb2
    exact hl.apart h1.hd (by decide)
  obtain ⟨A1, c1, p1, p2, p3⟩ := h1.pn.ex
  have nrow : ∀ (g : Nat) (t : TypeId) (cs : Array Value), Lies w1.drew g t cs → t ≠ 73 → rowOf A ≠ some g := fun g t cs hl ht e => prow_apart h1.row e hl ht rfl
  have nrec : ∀ (g : Nat) (t : TypeId) (cs : Array Value), Lies w1.drew g t cs → t ≠ 79 → g ∉ bs := fun g t cs hl ht hm => by
    obtain ⟨x, hl2⟩ := h1.recs.lies hm
    exact ht (hl.inj hl2).1
  refine ⟨⟨none, 0, [], bs, fun g => S g ∧ rowOf A ≠ some g ∧ g ∉ bs, ⟨?_, World.ownsRow_nil _ _ _ _, fun g e => (by cases e), ⟨rfl, List.nodup_nil, fun i b x hb2 => (by simp at hb2), fun b hb2 => (by cases hb2)⟩, ?_, ⟨h1.own, nrow r _ _ h1.hd (by decide), nrec r _ _ h1.hd (by decide)⟩⟩,
    h1.row.same fun g e => far g (frow g e), h1.recs.same fun b hb2 => far b (frec b hb2), fun g e => ⟨fun hs => hs.2.1 e, h1.rowS g e⟩, fun b hb2 hs => hs.2.2 hb2, fun g hg => .inl hg.1⟩, ?_⟩
  · exact (((h1.hd.set 2 (.int .i64 f)).set 3 (.int .i64 k)).set 4 (.slice none 0 0))
  · refine ⟨⟨A1, c1, p1.of_same (far q (p1.apart h1.hd (by decide))), find.RowsAt.of_same p2 (fun g e => far g (by rw [find.rowOf_eq] at e; exact pl.own_apart p2 e h1.hd (by decide))), fun g e => ?_⟩, ⟨h1.pn.own, nrow q _ _ p1 (by decide), nrec q _ _ p1 (by decide)⟩, h1.pn.asc, h1.pn.len, h1.pn.lo, h1.pn.hi⟩
    obtain ⟨_, cur, hc⟩ := pl.own_cell (g := g) p2 (by first | exact e | (rw [find.rowOf_eq]; exact e))
    exact ⟨p3 g e, nrow g _ _ hc (by decide), nrec g _ _ hc (by decide)⟩
  · exact (((((Keep.of_below hb S).trans (Keep.of_below ((Below.refl w.heap.size w1).drew) S)).setCell (p := ⟨r, 2, none⟩) (.inr h.own) _).setCell (p := ⟨r, 3, none⟩) (.inr h.own) _).setCell (p := ⟨r, 4, none⟩) (.inr h.own) _)

set_option maxRecDepth 100000 in
set_option maxHeartbeats 16000000 in
theorem take_any (h : Hx w S r D A c q bs) (d : CfD) (hp : PasAt w (fun g => g < w.heap.size ∧ ¬ S g) d.A d.ps) (hn : d.ps.length ≤ 16) (hR : D.R.length ≤ 16) (hQ : D.Q.length ≤ 16) (l0 : 0 ≤ D.last) (l1 : D.last + 16 < 1099511627775) (hqk : ∀ x ∈ D.Q, x.1 ≤ D.last) :
    Calls Try.prog 29 #[bp r, d.v] w (TakePost S r (D.take d) q w) := by
  have hmix : Try.prog.follows .mixedOrders = true := by kernel_rfl
  have hb0 : Below w.heap.size w (w.alloc (.cells #[d.x0, .int .i64 d.l0, .int .i64 d.l1, .int .i64 d.l2, .int .i64 d.l3, .int .i64 d.l4, .int .i64 d.l5, .int .i64 d.l6, .int .i64 d.l7, .int .i64 d.fails, .int .i64 d.cool, .int .i64 d.probe, d.x12, .slice d.A d.ps.length d.c, d.x14, d.x15] 29)) := (Below.refl _ w).alloc (Nat.le_refl _) _
  have h0 := h.below hb0
  have hcf := cf_box w d
  have k9 := hcf.c9
  have k10 := hcf.c10
  have k13 := hcf.c13
  have g2 := h0.hd.cell 2
  have g3 := h0.hd.cell 3
  have g4 := h0.hd.cell 4
  simp at g2 g3 g4
  have fz := fun i => h0.hd.frozen i
  have hT := tm_start h d.fails d.cool hb0
  have hrl := h.hd.lt
  generalize hw1 : w.alloc (.cells #[d.x0, .int .i64 d.l0, .int .i64 d.l1, .int .i64 d.l2, .int .i64 d.l3, .int .i64 d.l4, .int .i64 d.l5, .int .i64 d.l6, .int .i64 d.l7, .int .i64 d.fails, .int .i64 d.cool, .int .i64 d.probe, d.x12, .slice d.A d.ps.length d.c, d.x14, d.x15] 29) = w1 at *
  have k9' : w1.cell? ⟨w.heap.size, 9, none⟩ = some (.int .i64 d.fails) := k9
  have k10' : w1.cell? ⟨w.heap.size, 10, none⟩ = some (.int .i64 d.cool) := k10
  have k13' : w1.cell? ⟨w.heap.size, 13, none⟩ = some (.slice d.A d.ps.length d.c) := k13
  have hne : ¬ r = w.heap.size := by omega
  have hne2 : ¬ w.heap.size = r := by omega
  have HT := bk.Bx.mk hT
  have HP := bk.Bx.mk hp
  have HOK := bk.Bx.mk (tok_all hR l0 hQ hqk d.ps)
  have HL1 := bk.Bx.mk l1
  have HW1 := bk.Bx.mk hw1
  obtain ⟨nr, hnr⟩ : ∃ n, D.R.length = n := ⟨_, rfl⟩
  have HNR := bk.Bx.mk hnr
  rw [hnr] at g4
  clear h h0 hcf k9 k10 k13 hb0 hT hp hR hQ l0 l1 hqk hnr hw1
  go_enter Try.func29, Try.ntmps29
  go_wp2_with fail
  rw [HW1.out]
  go_region
  go_wp2_with fail
  have HTM : bk.Bx (TM w S r q { D with fails := d.fails, cool := d.cool } A c (s0of D) (((w1.setCell ⟨r, 2, none⟩ (.int .i64 d.fails)).setCell ⟨r, 3, none⟩ (.int .i64 d.cool)).setCell ⟨r, 4, none⟩ (.slice none 0 0)).drew) := ⟨HT.out⟩
  clear HT k9' k10' k13' g2 g3 g4 fz hne hne2 hrl HW1
  generalize (((w1.setCell ⟨r, 2, none⟩ (.int .i64 d.fails)).setCell ⟨r, 3, none⟩ (.int .i64 d.cool)).setCell ⟨r, 4, none⟩ (.slice none 0 0)).drew = w3 at *
  obtain ⟨ss, hss⟩ : ∃ ss : Nat → TS, ss = fun j => tsOf D ((d.ps.take j).map PaD.pk) := ⟨_, rfl⟩
  have HS0 : bk.Bx (ss 0 = s0of D) := ⟨by rw [hss]; rfl⟩
  have HSS : bk.Bx (∀ (j : Nat) (x : PaD), d.ps[j]? = some x → ss (j + 1) = tstep (ss j) x.pk) := ⟨fun j x hx => by rw [hss]; exact fold_snoc D hx⟩
  have HSA : bk.Bx (tsOf D (d.ps.map PaD.pk) = ss d.ps.length) := ⟨by rw [hss]; simp⟩
  have HTO : bk.Bx (∀ j, j ≤ d.ps.length → TOk D j (ss j)) := ⟨fun j hj => by rw [hss]; exact HOK.out j hj⟩
  clear hss HOK
  have HN0 : nr = (ss 0).left.length := by rw [HS0.out, ← HNR.out]; rfl
  obtain ⟨n, hn0⟩ : ∃ n, d.ps.length = n := ⟨_, rfl⟩
  have HN := bk.Bx.mk hn0
  rw [hn0] at hn HSA HTO ⊢
  clear hn0
  have HD1 : bk.Bx (∃ D1 : HD, D1 = { D with fails := d.fails, cool := d.cool }) := ⟨⟨_, rfl⟩⟩
  obtain ⟨D1, hD1⟩ := HD1.out
  rw [← hD1] at HTM
  have HDD := bk.Bx.mk hD1
  clear HD1 hD1
  go_loopw [4, 33] (fun s4 s33 wr => ∃ j : Nat, j ≤ n ∧ s33 = .int .i64 j ∧ s4 = .slice A (ss j).left.length c ∧ bk.Bx (TM w S r q D1 A c (ss j) wr)) (fun _ s33 _ => n - (intOf s33).toNat)
  case atStart => exact ⟨0, by omega, rfl, by rw [HN0], ⟨by rw [HS0.out]; exact HTM.out⟩⟩
  case round =>
    obtain ⟨j, hj, rfl, rfl, ht⟩ := hrel
    clear HN0
    by_cases hjn : j < n
    · obtain ⟨x, hx⟩ : ∃ x, d.ps[j]? = some x := ⟨_, List.getElem?_eq_getElem (by rw [HN.out]; exact hjn)⟩
      obtain ⟨gp, off, hA, ⟨hg1, hg2⟩, hcs⟩ := HP.out.ex (by rw [HN.out]; omega)
      have hxa := (hcs j x hx).of_same (ht.out.keep.block gp hg1 hg2)
      obtain ⟨e0, e1, e2, e3, e4, e5, e6, e7⟩ := hxa
      have hjg : gp < wr.heap.size := World.block_lt_of_cell? _ _ e0
      have HSJ := bk.Bx.mk (HSS.out j x hx)
      have HTJ := bk.Bx.mk (HTO.out j hj)
      have HTJ1 := bk.Bx.mk (HTO.out (j + 1) (by omega))
      -- what the two blocks are
      obtain ⟨f1, f2, f3⟩ := two_facts wr 71 77 #[.string x.nm, .int .u8 x.kd, .string x.tx, .int .i64 x.po, .int .u8 x.pr, .string x.us, .string x.pw, .int .i64 x.we] #[.string x.nm, .int .u8 x.kd, .string x.tx, .int .i64 x.po, .int .u8 x.pr]
      have HF2 := bk.Bx.mk f2
      have HF3 := bk.Bx.mk f3
      have HFI : bk.Bx (∀ W, Below wr.heap.size wr W → Calls Try.prog 46 #[.slice A (ss j).left.length c, .func (.func 47) #[] #[], .agg #[.string x.nm, .int .u8 x.kd, .string x.tx, .int .i64 x.po, .int .u8 x.pr]] W fun e w' => e = .returned (.int .i64 (pfind (ss j).left x.pk)) ∧ Below W.heap.size W w') := ⟨fun W hW => by
        obtain ⟨A1, c1, bsO, bsL, SO, q1, q2, q3, q4, q5, q6⟩ := (ht.out.below hW).ex
        exact findP_row q2 q3 (by have := HTJ.out.left; omega) x.pk⟩
      clear f1 f2 f3 hcs hx hg1 hg2
      have hA2 := bk.Bx.mk hA
      rw [hA]
      clear hA
      go_wp2_with fail
      generalize hw5 : (wr.alloc (.cells #[.string x.nm, .int .u8 x.kd, .string x.tx, .int .i64 x.po, .int .u8 x.pr, .string x.us, .string x.pw, .int .i64 x.we] 71)).alloc (.cells #[.string x.nm, .int .u8 x.kd, .string x.tx, .int .i64 x.po, .int .u8 x.pr] 77) = w5 at *
      have hsz5 : w5.heap.size = wr.heap.size + 1 + 1 := by rw [← hw5]; simp
      have HF2' : bk.Bx (Lies w5 (wr.heap.size + 1) 77 #[.string x.nm, .int .u8 x.kd, .string x.tx, .int .i64 x.po, .int .u8 x.pr]) := ⟨by rw [← hw5]; exact HF2.out⟩
      have hb5 : Below wr.heap.size wr w5 := by rw [← hw5]; exact HF3.out
      have HB5 := bk.Bx.mk hb5
      clear HF2 HF3 hw5 hsz5 hb5 e0 e1 e2 e3 e4 e5 e6 e7 hjg
      refine (HFI.out w5 HB5.out).mono ?_
      rintro e w6 ⟨rfl, hb6⟩
      have hl6 := HF2'.out.below hb6 HF2'.out.lt
      have ht6 := ht.out.below (HB5.out.trans (hb6.mono HB5.out.size))
      have HT6 := bk.Bx.mk ht6
      have z0 := hl6.cell 0
      have z1 := hl6.cell 1
      have z2 := hl6.cell 2
      have z3 := hl6.cell 3
      have z4 := hl6.cell 4
      simp at z0 z1 z2 z3 z4
      clear HF2' HB5 hb6 hl6 HFI
      by_cases hp : pfind (ss j).left x.pk < 0
      · have hst := tstep_new hp
        rw [← HSJ.out] at hst
        have e9 : (ss (j + 1)).left.length = (ss j).left.length := by rw [hst]
        have HE9 := bk.Bx.mk e9
        have KB : bk.Bx (Calls Try.prog 48 #[bp r, .agg #[.string x.nm, .int .u8 x.kd, .string x.tx, .int .i64 x.po, .int .u8 x.pr]] w6 fun e w' => e = .returned (.tuple #[]) ∧ TM w S r q D1 A c (ss (j + 1)) w') := ⟨by
          obtain ⟨A1, c1, bsO, bsL, SO, q1, q2, q3, q4, q5, q6⟩ := ht6.ex
          have g1 := HTJ.out
          refine (begin_any q1 x.pk (by show (ss j).out.length ≤ 1000; rw [g1.out]; omega) g1.l0 (by have := g1.l1; have := HL1.out; show (ss j).last < _; omega) (idx_new g1.qk) (by show (ss j).Q.length < 64; have := g1.ql; omega)).mono ?_
          rintro e w' hbp
          refine ⟨hbp.eq, ?_⟩
          rw [hst]
          exact TM.more ht6.keep q1 q2 q3 q4 q5 q6 hbp⟩
        clear hst e9 ht6
        generalize pfind (ss j).left x.pk = z at *
        go_wp2_with fail
        refine KB.out.mono ?_
        rintro e w7 ⟨rfl, h7⟩
        have H7 := bk.Bx.mk h7
        clear h7 KB
        go_wp2_with fail
        go_roundw
        case rel => exact ⟨j + 1, by omega, by first | rfl | simp, by rw [HE9.out], H7⟩
        case measure => simp [intOf]; omega
      · obtain ⟨k, y, hk, hy, _, hkl⟩ := pfind_some hp
        have hst := tstep_old hk hy
        rw [← HSJ.out] at hst
        have e9 : (ss (j + 1)).left.length = (ss j).left.length - 1 := by rw [hst]; show ((ss j).left.eraseIdx k).length = _; rw [List.length_eraseIdx, if_pos hkl]
        have HE9 := bk.Bx.mk e9
        rw [hk]
        clear hp
        obtain ⟨A1, c1, bsO, bsL, SO, q1, q2, q3, q4, q5, q6⟩ := ht6.ex
        have g1 := HTJ.out
        obtain ⟨b, hb, hl, hbS⟩ := q3.get hy
        obtain ⟨gA, hAA, hgA, _, hcA⟩ := q2.cell (by rw [q3.len]; omega)
        have cb := hcA k b hb
        subst hAA
        have hnb : b ∉ bsO := fun hm => q5 b (List.mem_of_getElem? hb) (q1.recs.own b hm)
        have hbd : Below w6.heap.size w6 w6.drew := (Below.refl _ _).drew
        obtain ⟨A2, c2, W', hr, hf, hc4, hx3, k3⟩ := (q1.below hbd).grow (hl.below hbd hl.lt) hnb (by show (ss j).out.length ≤ 1000; rw [g1.out]; omega)
        have r4 := q1.hd.cell 4
        simp at r4
        have hrl := q1.hd.lt
        have HAP := bk.Bx.mk hr
        have HDL : bk.Bx (Calls Try.prog 49 #[.slice (some ⟨gA, 0, none⟩) (ss j).left.length c, .int .i64 (k : Int), .int .i64 ((k : Int) + 1)] (W'.setCell ⟨r, 4, none⟩ (.slice A2 ((ss j).out.length + 1) c2)) fun e w' => e = .returned (.slice (some ⟨gA, 0, none⟩) (ss (j + 1)).left.length c) ∧ TM w S r q D1 (some ⟨gA, 0, none⟩) c (ss (j + 1)) w') := ⟨by
          have k3' : Keep w6.heap.size SO w6 (W'.setCell ⟨r, 4, none⟩ (.slice A2 ((ss j).out.length + 1) c2)) := (Keep.of_below hbd SO).trans k3
          have hrow8 : PRow (W'.setCell ⟨r, 4, none⟩ (.slice A2 ((ss j).out.length + 1) c2)) (some ⟨gA, 0, none⟩) c bsL := q2.same fun g e => k3'.block g (prow_lt q2 e) (q4 g e).1
          have hl3 := q3.len
          have hdel := pdelete_any hrow8 (by have := g1.left; omega) k (by omega)
          rw [hl3] at hdel
          refine hdel.mono ?_
          rintro e w' hdp
          refine ⟨by rw [hdp.eq, hl3, HE9.out], ?_⟩
          rw [hst]
          exact TM.over ht6.keep q2 q3 q4 q5 q6 hb hy hx3 k3' hdp⟩
        have hkk : k < (ss j).left.length := hkl
        have hk16 : (ss j).left.length ≤ 16 := g1.left
        have hgo : ¬ gA = r := fun e => by subst e; exact prow_apart q2 rfl q1.hd (by decide) rfl
        obtain ⟨mo, hmo⟩ : ∃ mo, (ss j).out.length = mo := ⟨_, rfl⟩
        rw [hmo] at r4 HAP HDL hc4
        clear hst e9 ht6 hk hy hkl hnb hr hx3 k3 q1 q2 q3 q4 q5 q6 hl hb hcA hbd g1 hmo
        generalize (ss j).left.length = m at *
        go_wp2_with fail
        go_region_law (refine step_append_eq rfl _ _ 32 32 rfl rfl (by simp [Act.eval]) (by simp [Act.eval]) HAP.out ?_)
        all_goals
          clear HAP hf hc4 r4
          generalize W'.setCell ⟨r, 4, none⟩ (.slice A2 (mo + 1) c2) = w8 at *
          go_wp2_with fail
          refine HDL.out.mono ?_
          rintro e w9 ⟨rfl, h9⟩
          have H9 := bk.Bx.mk h9
          clear h9 HDL
          go_wp2_with fail
          go_roundw
          case rel => exact ⟨j + 1, by omega, by first | rfl | simp, rfl, H9⟩
          case measure => simp [intOf]; omega
    · obtain rfl : j = n := by omega
      obtain ⟨m, hm⟩ : ∃ m, (ss j).left.length = m := ⟨_, rfl⟩
      have HM := bk.Bx.mk hm
      have hm16 : m ≤ 16 := by rw [← hm]; exact (HTO.out j hj).left
      rw [hm]
      clear hm
      obtain ⟨qq, hqq⟩ : ∃ qq : Nat → TS, qq = fun i => ⟨(ss j).left, (ss j).out, (ss j).last, dropsOf ((ss j).left.take i) (ss j).Q⟩ := ⟨_, rfl⟩
      have HQ0 : bk.Bx (qq 0 = ss j) := ⟨by rw [hqq]; rfl⟩
      have HQS : bk.Bx (∀ (i : Nat) (y : RD), (ss j).left[i]? = some y → qq (i + 1) = ⟨(qq i).left, (qq i).out, (qq i).last, dropK y.key (qq i).Q⟩) := ⟨fun i y hy => by rw [hqq]; simp only; rw [drops_snoc _ hy]⟩
      have HQL : bk.Bx (∀ i, (qq i).left = (ss j).left) := ⟨fun i => by rw [hqq]⟩
      have HQE : bk.Bx (qq m = ⟨(ss j).left, (ss j).out, (ss j).last, dropsOf (ss j).left (ss j).Q⟩) := ⟨by rw [hqq, ← HM.out]; simp⟩
      clear hqq
      go_wp2_with fail
      go_loopw [73] (fun s73 wr => ∃ i : Nat, i ≤ m ∧ s73 = .int .i64 i ∧ bk.Bx (TM w S r q D1 A c (qq i) wr)) (fun s73 _ => m - (intOf s73).toNat)
      case atStart => exact ⟨0, by omega, rfl, ⟨by rw [HQ0.out]; exact ht.out⟩⟩
      case round =>
        obtain ⟨i, hi, rfl, ht2⟩ := hrel
        by_cases him : i < m
        · obtain ⟨y, hy⟩ : ∃ y, (ss j).left[i]? = some y := ⟨_, List.getElem?_eq_getElem (by rw [HM.out]; exact him)⟩
          obtain ⟨A1, c1, bsO, bsL, SO, q1, q2, q3, q4, q5, q6⟩ := ht2.out.ex
          rw [HQL.out i] at q3
          obtain ⟨b, hb, hl, hbS⟩ := q3.get hy
          obtain ⟨gA, hAA, hgA, _, hcA⟩ := q2.cell (by rw [q3.len, HM.out]; omega)
          have cb := hcA i b hb
          subst hAA
          have r6 := q1.hd.cell 6
          have b0 := hl.cell 0
          simp at r6 b0
          have hbd : Below wr.heap.size wr wr.drew := (Below.refl _ _).drew
          have KD : bk.Bx (Calls Try.prog 50 #[bp q, .int .i64 y.key] wr.drew fun e w' => ∃ v, e = .returned (.int .i64 v) ∧ TM w S r q D1 (some ⟨gA, 0, none⟩) c (qq (i + 1)) w') := ⟨by
            have ht3 := ht2.out.below hbd
            have q1' := q1.below hbd
            refine (pdrop_any q1'.pn' y.key).mono ?_
            rintro e w' ⟨v, he, hd⟩
            refine ⟨v, he, ?_⟩
            rw [HQS.out i y hy]
            exact TM.drop ht3.keep q1' (q2.same fun g e => hbd.block g (prow_lt q2 e)) (by rw [HQL.out i]; exact q3.same fun g hg => by obtain ⟨z, hz⟩ := q3.lies hg; exact hbd.block g hz.lt) q4 q5 q6 hd⟩
          clear q1 q2 q3 q4 q5 q6 hy hb hl hgA hcA hbd
          go_wp2_with fail
          go_still_tail 8, hmix
          change wpList _ _ _ _ _ wr.drew
          generalize wr.drew = w7 at *
          go_wp2_with fail
          refine KD.out.mono ?_
          rintro e w9 ⟨v, rfl, h9⟩
          have H9 := bk.Bx.mk h9
          clear h9 KD
          go_wp2_with fail
          go_roundw
          case rel => exact ⟨i + 1, by omega, by first | rfl | simp, H9⟩
          case measure => simp [intOf]; omega
        · obtain rfl : i = m := by omega
          have HF : bk.Bx (TakePost S r (D.take d) q w (.returned (.tuple #[])) wr) := ⟨by
            obtain ⟨A1, c1, bsO, bsL, SO, q1, q2, q3, q4, q5, q6⟩ := ht2.out.ex
            refine ⟨rfl, ⟨A1, c1, bsO, ?_⟩, ht2.out.keep⟩
            have e1 : D.take d = { D1 with R := (qq i).out, last := (qq i).last, Q := (qq i).Q } := by
              unfold HD.take
              rw [HSA.out, HDD.out, HQE.out]
            rw [e1]
            exact q1.mono q6⟩
          clear ht2
          go_wp2_with fail
          refine bodyPost_ret (v := .tuple #[]) (by simp [results, Try.results29, go_sem]) rfl ?_
          exact HF.out
end
end Go.Proofs.Ytpidjekabnnmcaa.hp
