/-
  Given for the seat's laws: HeadPrints at any two heads and any name. No condition but those of the theorem.
-/
import Derived.Test.YtkclhfoeimbikaaDoorKRPrint
import Derived.Test.YtkclhfoeimbikaaDoorKRef4
import Derived.Test.YtkclhfoeimbikaaDoorKRVal
import Derived.Test.YtkclhfoeimbikaaDoorKGreat
import Derived.Test.YtkclhfoeimbikaaDoorKLTakes
namespace Go.Proofs.YtkclhfoeimbikaaDoor.hd
open Go.RowKit mem
set_option linter.unusedVariables false

/-- all fields onto an empty row of the call's own -/
theorem appAll {W : World} {B g : Nat} {ok : Nat → Prop} {A : Option Addr} {n c : Nat} {fs : Flds} (h : W.ownsRow B 49 2 (.slice (some ⟨g, 0, none⟩) 0 0) 0 []) (hf : FAt W ok A n c fs) (hB : B ≤ W.heap.size) (hn : n ≤ 1000) :
    ∃ A2 c2 W2, (Builtin.append_ #[23, 23] 23 #[.slice (some ⟨g, 0, none⟩) 0 0, .slice A n c]).run Tryd.prog W = .ok (.slice A2 (n : Nat) c2) W2 ∧ RowF W2 B (.slice A2 (n : Nat) c2) fs ∧ W.grownBy W2 (some g) := by
  have hlen := hf.len
  subst hlen
  obtain ⟨i0, hinf, hz0, hz1, hz2⟩ := info_parts twoInfo
  by_cases h0 : fs.length = 0
  · have hfs : fs = [] := List.eq_nil_of_length_eq_zero h0
    subst hfs
    cases A with
    | none =>
      have hc := hf.non rfl
      subst hc
      have hr := run_append_owned_none (P := Tryd.prog) W B 23 23 49 i0 2 Tryd.underlying23 hinf _ 0 [] h
      exact ⟨_, _, W, hr, h, World.grownBy.refl W _⟩
    | some a =>
      obtain ⟨v', W', hr, ho, hg, _⟩ := run_append_own (P := Tryd.prog) W B 23 23 49 i0 _ 2 32 Tryd.underlying23 hinf hz0 hz1 hz2 rfl (by decide) _ _ _ h a 0 c [] rfl (fun j u hu => by simp at hu) (by simp) (by unfold maxLen; omega) (by omega) hB
      obtain ⟨A', c', rfl⟩ := rown_form ho
      exact ⟨A', c', W', hr, ho, hg⟩
  · obtain ⟨g2, off, rfl, _, hc⟩ := hf.lies (by omega)
    obtain ⟨v', W', hr, ho, hg, _⟩ := run_append_own (P := Tryd.prog) W B 23 23 49 i0 _ 2 32 Tryd.underlying23 hinf hz0 hz1 hz2 rfl (by decide) _ _ _ h ⟨g2, off, none⟩ fs.length c (flat2 fs) (by rw [flat2_len]; omega) (fun j u hu => by
      have := hc j u hu
      by_cases hj : j = 0 <;> simpa [Addr.add, hj] using this) (by
        intro u hu
        unfold flat2 at hu
        obtain ⟨p, _, hp⟩ := List.mem_flatMap.1 hu
        simp at hp
        rcases hp with rfl | rfl <;> rfl) (by unfold maxLen; omega) (by omega) hB
    obtain ⟨A', c', rfl⟩ := rown_form ho
    rw [Nat.zero_add] at hr ho
    exact ⟨A', c', W', hr, ho, hg⟩

/-- a copy of a head, of the call's own -/
structure MP (w W : World) (l : Str) (fs : Flds) (n gm : Nat) (A2 : Option Addr) (c2 : Nat) : Prop where
  bm : Lies W gm 25 #[.string (S l), .slice A2 n c2]
  fm : RowF W w.heap.size (.slice A2 n c2) fs
  be : Below w.heap.size w W

/-! ### what is printed: bytes, or none -/
def PB (W : World) (B : Nat) (A : Option Addr) (c : Nat) (bs : Str) : Prop := RowG W B (.slice A bs.length c) bs ∨ (bs = [] ∧ A = none ∧ c = 0)
theorem PB.same {W W' : World} {B : Nat} {A : Option Addr} {c : Nat} {bs : Str} (h : PB W B A c bs) (hk : ∀ m g, (Value.slice A m c).ownBlock = some g → W'.heap[g]? = W.heap[g]?) : PB W' B A c bs := h.imp (fun h => h.same (hk _)) id
theorem PB.spell {W : World} {B : Nat} {A : Option Addr} {m c : Nat} {bs : Str} (h : PB W B A c bs) (hm : bs.length = m) : Spell W (fun g => g < W.heap.size) A m c bs := by
  rcases h with h | ⟨rfl, rfl, rfl⟩
  · subst hm
    exact h.spell rfl
  · obtain rfl : 0 = m := hm
    exact ⟨rfl, Nat.le_refl _, fun _ => rfl, by unfold maxLen; omega, by simp [ints], fun h => absurd h (by simp [ints])⟩
def PkTo (bs : Str) (q : Nat) (w : World) (e : Ending) (w' : World) : Prop := ∃ A c, e = .returned (.tuple #[.slice A bs.length c, .int .i64 (q : Int)]) ∧ PB w' w.heap.size A c bs ∧ Below w.heap.size w w'
theorem print_two (l : Str) (fs : Flds) : ∃ bs q, bs.length ≤ 512 ∧ ∀ w e w', PrintTo l fs w e w' → PkTo bs q w e w' := by
  by_cases h : prints l fs
  · refine ⟨pr l fs, 0, ((prints_iff l fs).1 h).2, fun w e w' hp => ?_⟩
    obtain ⟨A, c, rfl, hr, hb⟩ := hp.1 h
    exact ⟨A, c, rfl, .inl hr, hb⟩
  · refine ⟨[], 2, by simp, fun w e w' hp => ?_⟩
    obtain ⟨rfl, hb⟩ := hp.2 h
    exact ⟨none, 0, rfl, .inr ⟨rfl, rfl, rfl⟩, hb⟩

/-! ### one turn: what was told is spoilt -/
structure TS (wo wq : World) (Al : Option Addr) (k cl : Nat) (ls : List Str) (Ab : Option Addr) (m cb : Nat) (bs : Str) : Prop where
  be : Below wo.heap.size wo wq
  lr : RowS wq wo.heap.size (.slice Al k cl) ls
  ln : ls.length = k
  br : PB wq wo.heap.size Ab cb bs
  bn : bs.length = m
section
variable {wo wq : World} {Al : Option Addr} {k cl : Nat} {ls : List Str} {Ab : Option Addr} {m cb : Nat} {bs : Str}
theorem TS.atL (H : TS wo wq Al k cl ls Ab m cb bs) {i : Nat} {x : Str} (hx : ls[i]? = some x) :
    ∃ g, Al = some ⟨g, 0, none⟩ ∧ wq.cell? ⟨g, i, none⟩ = some (.string (S x)) ∧ wq.frozen? ⟨g, i, none⟩ = false ∧ ∀ t, TS wo (wq.setCell ⟨g, i, none⟩ (.string (S t))) Al k cl (ls.set i t) Ab m cb bs := by
  have hi := (List.getElem?_eq_some_iff.1 hx).1
  have hlr := H.lr
  obtain ⟨g, hA⟩ : ∃ g, Al = some ⟨g, 0, none⟩ := by
    rcases hlr.2 with ⟨h1, _⟩ | ⟨g, cap, cur, h1, _⟩
    · simp at h1
      have := H.ln
      omega
    · simp at h1
      exact ⟨g, h1.1⟩
  subst hA
  have hln := H.ln
  subst hln
  have hBg := rown_lt hlr (g := g) rfl
  have hc := World.ownsRow.cellAt hlr i (by omega)
  have hxs : (strv ls)[i]? = some (.string (S x)) := by simp [strv, hx]
  rw [hxs] at hc
  refine ⟨g, rfl, hc, World.ownsRow.frozenAt hlr i, fun t => ?_⟩
  obtain ⟨h1, h2⟩ := World.ownsRow.stored hlr i (.string (S t))
  refine ⟨H.be.setCell (p := ⟨g, i, none⟩) hBg.1 _, ?_, by rw [List.length_set], ?_, H.bn⟩
  · have e : strv (ls.set i t) = (strv ls).set i (.string (S t)) := by simp [strv, List.map_set]
    unfold RowS
    rw [List.length_set, e]
    exact h1
  · rcases H.br with hr | hr
    · refine .inl (hr.same fun g' hg' => Below.heap_setCell _ _ _ _ fun e => ?_)
      have : g' = g := e
      subst this
      exact hr.apart hlr (by decide) (g := g') rfl hg'
    · exact .inr hr
theorem TS.atB (H : TS wo wq Al k cl ls Ab m cb bs) {i : Nat} (hi : i < m) :
    ∃ g x, Ab = some ⟨g, 0, none⟩ ∧ wq.cell? ⟨g, i, none⟩ = some (.int .u8 ((x : UInt8).toNat : Int)) ∧ wq.frozen? ⟨g, i, none⟩ = false ∧ ∀ y : UInt8, TS wo (wq.setCell ⟨g, i, none⟩ (.int .u8 (y.toNat : Int))) Al k cl ls Ab m cb (bs.set i y) := by
  have hbn := H.bn
  subst hbn
  rcases H.br with hr | ⟨rfl, _⟩
  · obtain ⟨g, off, hA, _, hc⟩ : ∃ g off, Ab = some ⟨g, off, none⟩ ∧ g < wq.heap.size ∧ wq.cell? ⟨g, off + i, none⟩ = some (.int .u8 ((bs[i]).toNat : Int)) := spell_cell (hr.spell rfl) (List.getElem?_eq_getElem hi)
    obtain ⟨g', c', hv⟩ := hr.form
    simp only [Value.slice.injEq, true_and] at hv
    rw [hA] at hv
    simp at hv
    obtain ⟨⟨rfl, rfl⟩, rfl⟩ := hv
    subst hA
    rw [Nat.zero_add] at hc
    obtain ⟨g2, old, hA2, ho, hf, hBg, _⟩ := hr.set rfl hi 0
    simp at hA2
    subst hA2
    refine ⟨g, bs[i], rfl, hc, hf, fun y => ?_⟩
    obtain ⟨g3, _, hA3, _, _, _, hset⟩ := hr.set rfl hi y
    simp at hA3
    subst hA3
    refine ⟨H.be.setCell (p := ⟨g, i, none⟩) hBg _, rown_same H.lr fun g' hg' => Below.heap_setCell _ _ _ _ fun e => ?_, H.ln, .inl (by rw [List.length_set]; exact hset), by rw [List.length_set]⟩
    have : g' = g := e
    subst this
    exact hr.apart H.lr (by decide) hg' rfl
  · simp at hi
end

structure PS (w wr : World) (l : Str) (fs : Flds) (A : Option Addr) (n c : Nat) (lg : Str) (fg : Flds) (Ag : Option Addr) (ng cg gm : Nat) (Am : Option Addr) (cm : Nat) (Aw : Option Addr) (m cw : Nat) (bs : Str) (Av : Option Addr) (k cv : Nat) (vs : List Str) : Prop where
  bh : Lies wr w.heap.size 25 #[.string (S l), .slice A n c]
  bg : Lies wr (w.heap.size + 1) 25 #[.string (S lg), .slice Ag ng cg]
  fh : FAt wr (fun g => g < wr.heap.size) A n c fs
  fg : FAt wr (fun g => g < wr.heap.size) Ag ng cg fg
  bm : Lies wr gm 25 #[.string (S l), .slice Am n cm]
  fm : FAt wr (fun g => g < wr.heap.size) Am n cm fs
  pw : Spell wr (fun g => g < wr.heap.size) Aw m cw bs
  vr : RowS wr w.heap.size (.slice Av k cv) vs
  be : Below w.heap.size w wr
theorem PS.next {w wr W : World} {l : Str} {fs : Flds} {A : Option Addr} {n c : Nat} {lg : Str} {fg : Flds} {Ag : Option Addr} {ng cg gm : Nat} {Am : Option Addr} {cm : Nat} {Aw : Option Addr} {m cw : Nat} {bs : Str} {Av : Option Addr} {k cv : Nat} {vs : List Str}
    (H : PS w wr l fs A n c lg fg Ag ng cg gm Am cm Aw m cw bs Av k cv vs) (hb : Below wr.heap.size wr W) : PS w W l fs A n c lg fg Ag ng cg gm Am cm Aw m cw bs Av k cv vs :=
  ⟨H.bh.below hb H.bh.lt, H.bg.below hb H.bg.lt, tfat_next H.fh hb, tfat_next H.fg hb, H.bm.below hb H.bm.lt, tfat_next H.fm hb, tsp_next H.pw hb, rown_same H.vr fun g hg => hb.block g (rown_lt H.vr hg).2, H.be.trans (hb.mono H.be.size)⟩
theorem strv_cell {W : World} {B : Nat} {A : Option Addr} {k c : Nat} {vs : List Str} (h : RowS W B (.slice A k c) vs) (hk : vs.length = k) {i : Nat} {x : Str} (hx : vs[i]? = some x) : ∃ g, A = some ⟨g, 0, none⟩ ∧ W.cell? ⟨g, i, none⟩ = some (.string (S x)) := by
  have hi := (List.getElem?_eq_some_iff.1 hx).1
  subst hk
  obtain ⟨g, hA⟩ : ∃ g, A = some ⟨g, 0, none⟩ := by
    rcases h.2 with ⟨h1, _⟩ | ⟨g, cap, cur, h1, _⟩
    · simp at h1
      omega
    · simp at h1
      exact ⟨g, h1.1⟩
  subst hA
  have hc := World.ownsRow.cellAt h i (by omega)
  have hxs : (strv vs)[i]? = some (.string (S x)) := by simp [strv, hx]
  rw [hxs] at hc
  exact ⟨g, rfl, hc⟩
def zhd : Obj := .cells #[.string ⟨#[]⟩, .slice none 0 0] 25
theorem mp_end {w W2 : World} {gm : Nat} {A2 : Option Addr} {n c2 : Nat} {l : Str} {fs : Flds} (hl : Lies W2 gm 25 #[.string ⟨#[]⟩, .slice none 0 0]) (hr : RowF W2 w.heap.size (.slice A2 n c2) fs) (hb : Below w.heap.size w W2) (hg : w.heap.size ≤ gm) :
    MP w ((W2.setCell ⟨gm, 0, none⟩ (.string (S l))).setCell ⟨gm, 1, none⟩ (.slice A2 n c2)) l fs n gm A2 c2 := by
  have ne : ∀ g, (Value.slice A2 n c2).ownBlock = some g → g ≠ gm := fun g e h => rown_ne hr hl (by decide) (by rw [e, h])
  refine ⟨(hl.set 0 _).set 1 _, ?_, (hb.setCell (p := ⟨gm, 0, none⟩) hg _).setCell (p := ⟨gm, 1, none⟩) hg _⟩
  exact rown_same (rown_same hr fun g e => Below.heap_setCell _ _ _ _ (ne g e)) fun g e => Below.heap_setCell _ _ _ _ (ne g e)
theorem mp_app {w W : World} {g gm : Nat} {ok : Nat → Prop} {A : Option Addr} {n c : Nat} {fs : Flds} (l : Str) (hf : FAt w ok A n c fs) (hok : ∀ g, ok g → g < w.heap.size) (hn : n ≤ 1000) (hB : Below w.heap.size w W)
    (h : W.ownsRow w.heap.size 49 2 (.slice (some ⟨g, 0, none⟩) 0 0) 0 []) (hl : Lies W gm 25 #[.string ⟨#[]⟩, .slice none 0 0]) (hg : w.heap.size ≤ gm) :
    ∃ A2 c2 W2, (Builtin.append_ #[23, 23] 23 #[.slice (some ⟨g, 0, none⟩) 0 0, .slice A n c]).run Tryd.prog W = .ok (.slice A2 (n : Nat) c2) W2 ∧ Below w.heap.size w W2 ∧ Lies W2 gm 25 #[.string ⟨#[]⟩, .slice none 0 0] ∧
      MP w ((W2.setCell ⟨gm, 0, none⟩ (.string (S l))).setCell ⟨gm, 1, none⟩ (.slice A2 n c2)) l fs n gm A2 c2 := by
  obtain ⟨A2, c2, W2, hr, ho, hgr⟩ := appAll h (hf.below hB hok) hB.size hn
  have hb2 : Below w.heap.size w W2 := hB.grown hgr hB.size fun g' e => by
    cases e
    exact (rown_lt h (g := g) rfl).1
  have hl2 : Lies W2 gm 25 #[.string ⟨#[]⟩, .slice none 0 0] := hl.of_same (hgr.block gm hl.lt (fun e => rown_ne h hl (by decide) e.symm))
  exact ⟨A2, c2, W2, hr, hb2, hl2, mp_end hl2 ho hb2 hg⟩
theorem mp_app2 {w W : World} {g : Nat} {ok : Nat → Prop} {A : Option Addr} {n c : Nat} {fs : Flds} (l : Str) (hf : FAt w ok A n c fs) (hok : ∀ g, ok g → g < w.heap.size) (hn : n ≤ 1000) (hB : Below w.heap.size w W)
    (h : W.ownsRow w.heap.size 49 2 (.slice (some ⟨g, 0, none⟩) 0 0) 0 []) :
    ∃ A2 c2 W2, (Builtin.append_ #[23, 23] 23 #[.slice (some ⟨g, 0, none⟩) 0 0, .slice A n c]).run Tryd.prog W = .ok (.slice A2 (n : Nat) c2) W2 ∧ Below w.heap.size w W2 ∧
      MP w (W2.alloc (.cells #[.string (S l), .slice A2 n c2] 25)) l fs n W2.heap.size A2 c2 := by
  obtain ⟨A2, c2, W2, hr, ho, hgr⟩ := appAll h (hf.below hB hok) hB.size hn
  have hb2 : Below w.heap.size w W2 := hB.grown hgr hB.size fun g' e => by
    cases e
    exact (rown_lt h (g := g) rfl).1
  exact ⟨A2, c2, W2, hr, hb2, Lies.new _ _ _, rown_same ho fun g e => Below.heap_alloc _ _ _ (rown_lt ho e).2, hb2.alloc hb2.size _⟩
theorem own_two (w : World) {B : Nat} (hB : B ≤ w.heap.size) : (w.alloc (.cells #[] 49)).ownsRow B 49 2 (.slice (some ⟨w.heap.size, 0, none⟩) 0 0) 0 [] := World.ownsRow_lit w #[] 0 hB (by unfold maxLen; omega) rfl
theorem rown_weak {w : World} {B B' : Nat} {v : Value} {e : TypeId} {sz k : Nat} {xs : List Value} (h : w.ownsRow B e sz v k xs) (hB : B' ≤ B) : w.ownsRow B' e sz v k xs :=
  ⟨h.1, h.2.imp id fun ⟨g, cap, cur, hv, hb, rest⟩ => ⟨g, cap, cur, hv, Nat.le_trans hB hb, rest⟩⟩
theorem TS.drewN {wo wq : World} {Al : Option Addr} {k cl : Nat} {ls : List Str} {Ab : Option Addr} {m cb : Nat} {bs : Str} (H : TS wo wq Al k cl ls Ab m cb bs) (i : Nat) : TS wo (wq.drewN i) Al k cl ls Ab m cb bs :=
  ⟨H.be.trans (((Still.drewN _ i).below _).mono H.be.size), rown_same H.lr fun _ _ => (Still.drewN wq i).heap ▸ rfl, H.ln, H.br.same fun _ _ _ => (Still.drewN wq i).heap ▸ rfl, H.bn⟩
theorem u8_inc (x : UInt8) : IntKind.u8.wrap ((x.toNat : Int) + 1) = ((x + 1).toNat : Int) := by
  have := byte_all (fun x => decide (IntKind.u8.wrap ((x.toNat : Int) + 1) = ((x + 1).toNat : Int))) (by decide +kernel) x
  simpa using this
set_option maxHeartbeats 16000000 in
set_option maxRecDepth 100000 in
theorem prints_walk {w : World} {Ah Ag : Option Addr} {nh ch ng cg : Nat} {th tg : Str} {fh fg : Flds} (hh : FAt w (fun g => g < w.heap.size) Ah nh ch fh) (hg : FAt w (fun g => g < w.heap.size) Ag ng cg fg) (s : ByteArray) :
    Calls Tryd.prog 4 #[.agg #[.string (S th), .slice Ah nh ch], .agg #[.string (S tg), .slice Ag ng cg], .string s] w (True_ w) := by
  obtain ⟨name, rfl⟩ : ∃ x, s = S x := ⟨_, (S_data s).symm⟩
  have hbox := Lies.new w 25 #[.string (S th), .slice Ah nh ch]
  have hb1 : Below w.heap.size w (w.alloc (.cells #[.string (S th), .slice Ah nh ch] 25)) := (Below.refl _ _).alloc (Nat.le_refl _) _
  have hsz : (w.alloc (.cells #[.string (S th), .slice Ah nh ch] 25)).heap.size = w.heap.size + 1 := by simp
  have hbox2 := Lies.new (w.alloc (.cells #[.string (S th), .slice Ah nh ch] 25)) 25 #[.string (S tg), .slice Ag ng cg]
  rw [hsz] at hbox2
  have hbox1 := hbox.alloc (.cells #[.string (S tg), .slice Ag ng cg] 25)
  have hb2 := hb1.alloc hb1.size (.cells #[.string (S tg), .slice Ag ng cg] 25)
  have HH := Bx.mk (tfat_next hh (hb2.mono (Nat.le_refl _)))
  have HG := Bx.mk (tfat_next hg (hb2.mono (Nat.le_refl _)))
  have HB1 := Bx.mk hbox1
  have HB2 := Bx.mk hbox2
  have HBE := Bx.mk hb2
  have hnz := S_size name
  clear hh hg hbox hbox1 hbox2 hb1 hb2
  go_enter Tryd.func4, Tryd.ntmps4
  go_upto_region 1 with fail
  clear hsz
  generalize (w.alloc (.cells #[.string (S th), .slice Ah nh ch] 25)).alloc (.cells #[.string (S tg), .slice Ag ng cg] 25) = W1 at *
  have x0 := HB1.out.cell 0; have x1 := HB1.out.cell 1
  have y0 := HB2.out.cell 0; have y1 := HB2.out.cell 1
  simp at x0 x1 y0 y1
  have HGr1 := Bx.mk (great_any (l := th) HH.out (fun g hg => hg))
  go_wp2_with fail
  refine HGr1.out.mono ?_
  rintro e w2 ⟨r, rfl, hsm, hb⟩
  cases r with
  | true =>
    have HBw := Bx.mk (HBE.out.trans (hb.mono HBE.out.size))
    clear hb hsm
    go_wp2_with fail
    exact bodyPost_ret (v := .bool true) (by simp [results, Tryd.results4, go_sem]) rfl ⟨rfl, HBw.out⟩
  | false =>
  have HZ := Bx.mk (hsm rfl)
  have HH2 := Bx.mk (tfat_next HH.out hb)
  have HG2 := Bx.mk (tfat_next HG.out hb)
  have HB12 := Bx.mk (HB1.out.below hb HB1.out.lt)
  have HB22 := Bx.mk (HB2.out.below hb HB2.out.lt)
  have HBE2 := Bx.mk (HBE.out.trans (hb.mono HBE.out.size))
  have HGr2 := Bx.mk (great_any (l := tg) HG2.out (fun g hg => hg))
  have y0 := HB22.out.cell 0; have y1 := HB22.out.cell 1
  simp at y0 y1
  clear hb hsm x0 x1 HH HG HB1 HB2 HBE HGr1
  go_wp2_with fail
  refine HGr2.out.mono ?_
  rintro e w3 ⟨r, rfl, hsm, hb⟩
  cases r with
  | true =>
    have HBw := Bx.mk (HBE2.out.trans (hb.mono HBE2.out.size))
    clear hb hsm
    go_wp2_with fail
    exact bodyPost_ret (v := .bool true) (by simp [results, Tryd.results4, go_sem]) rfl ⟨rfl, HBw.out⟩
  | false =>
  have HZg := Bx.mk (hsm rfl)
  have HH3 := Bx.mk (tfat_next HH2.out hb)
  have HG3 := Bx.mk (tfat_next HG2.out hb)
  have HB13 := Bx.mk (HB12.out.below hb HB12.out.lt)
  have HB23 := Bx.mk (HB22.out.below hb HB22.out.lt)
  have HBE3 := Bx.mk (HBE2.out.trans (hb.mono HBE2.out.size))
  clear hb hsm y0 y1 HH2 HG2 HB12 HB22 HBE2 HGr2
  by_cases hn : 1000 < name.length
  · have q : (1000 : Int) < (name.length : Int) := by omega
    clear hn
    go_wp2_with fail
    exact bodyPost_ret (v := .bool true) (by simp [results, Tryd.results4, go_sem]) rfl ⟨rfl, HBE3.out⟩
  have q : ¬ (1000 : Int) < (name.length : Int) := by omega
  have HNm : Bx (name.length ≤ 1000) := ⟨by omega⟩
  have hnh : nh ≤ 30 := by have := HZ.out.most; rw [HH3.out.len] at this; exact this
  have hng : ng ≤ 30 := by have := HZg.out.most; rw [HG3.out.len] at this; exact this
  have x0 := HB13.out.cell 0; have x1 := HB13.out.cell 1
  simp at x0 x1
  clear hn
  go_upto_region 3 with fail
  clear q hnz
  have HC : Bx (∀ W', Below w3.heap.size w3 W' → W'.cell? ⟨w.heap.size, 0, none⟩ = some (.string (S th)) ∧ W'.cell? ⟨w.heap.size, 1, none⟩ = some (.slice Ah nh ch)) := ⟨fun W' hb => ⟨cell_kept x0 hb, cell_kept x1 hb⟩⟩
  have b0 : Below w3.heap.size w3 w3.drew := (Below.refl _ _).drew
  have HF := Bx.mk HH3.out
  clear x0 x1
  go_cut [7] (fun s7 wx => ∃ (gm : Nat) (A2 : Option Addr) (c2 : Nat), s7 = .pointer (some ⟨gm, 0, none⟩) ∧ Bx (MP w3 wx th fh nh gm A2 c2))
  case first =>
    refine wp_region_held_drew (S := fun W' => W'.cell? ⟨w.heap.size, 0, none⟩ = some (.string (S th)) ∧ W'.cell? ⟨w.heap.size, 1, none⟩ = some (.slice Ah nh ch)) (by kernel_rfl) (HC.out _ b0) (fun hHeld => ?_)
    refine wpAnyH_take (i := 0) (oi := { dst := some 28, op := Op.fieldAddr 25 (Operand.tmp 3) 0, type := 0, pos := "law.go:38", after := #[], guard := none }) (v := ?v1) rfl (by kernel_rfl) (by kernel_rfl) (by kernel_rfl) (fun _ _ _ h => h) (Or.inl ⟨by rfl, ?y1⟩) hHeld ?r1
    case y1 => (intro W hSw; (try dsimp only at hSw); go_simp; try with_reducible rfl)
    try simp only [Act.put, List.setIfInBounds_toArray, List.set_cons_zero, List.set_cons_succ]
    refine wpAnyH_take (i := 1) (oi := { dst := some 29, op := Op.load 9 (Operand.tmp 28), type := 9, pos := "law.go:38", after := #[{ on := 0, ground := Ground.data }], guard := none }) (v := ?v2) rfl (by kernel_rfl) (by kernel_rfl) (by kernel_rfl) (fun _ _ _ h => h) (Or.inl ⟨by rfl, ?y2⟩) hHeld ?r2
    case y2 => (intro W hSw; (try dsimp only at hSw); go_simp; try with_reducible rfl)
    try simp only [Act.put, List.setIfInBounds_toArray, List.set_cons_zero, List.set_cons_succ]
    refine wpAnyH_take (i := 3) (oi := { dst := some 31, op := Op.fieldAddr 25 (Operand.tmp 3) 1, type := 0, pos := "law.go:38", after := #[], guard := none }) (v := ?v3) rfl (by kernel_rfl) (by kernel_rfl) (by kernel_rfl) (fun _ _ _ h => h) (Or.inl ⟨by rfl, ?y3⟩) hHeld ?r3
    case y3 => (intro W hSw; (try dsimp only at hSw); go_simp; try with_reducible rfl)
    try simp only [Act.put, List.setIfInBounds_toArray, List.set_cons_zero, List.set_cons_succ]
    refine wpAnyH_take (i := 4) (oi := { dst := some 32, op := Op.load 23 (Operand.tmp 31), type := 23, pos := "law.go:38", after := #[{ on := 3, ground := Ground.data }], guard := none }) (v := ?v4) rfl (by kernel_rfl) (by kernel_rfl) (by kernel_rfl) (fun _ _ _ h => h) (Or.inl ⟨by rfl, ?y4⟩) hHeld ?r4
    case y4 => (intro W hSw; (try dsimp only at hSw); go_simp; try with_reducible rfl)
    try simp only [Act.put, List.setIfInBounds_toArray, List.set_cons_zero, List.set_cons_succ]
    refine wpAnyH_ready (rs := [2, 7]) (by kernel_rfl) (by simp) (AllReadyH.cons (o := { dst := some 30, op := Op.buildSlice 23 0 #[], type := 23, pos := "law.go:38", after := #[], guard := none }) rfl (fun K hK => ?_) (AllReadyH.cons (o := { dst := some 7, op := Op.alloc 25, type := 0, pos := "law.go:38", after := #[], guard := none }) rfl (fun K hK => ?_) AllReadyH.nil))
    · go_simp
      refine hK.out _ _ (HC.out _ (((Below.refl _ _).alloc (Nat.le_refl _) _).drew)) (fun hHeld => ?_)
      clear hK K
      try simp only [Act.put, List.setIfInBounds_toArray, List.set_cons_zero, List.set_cons_succ]
      refine wpAnyH_ready (rs := [5, 7]) (by kernel_rfl) (by simp) (AllReadyH.cons (o := { dst := some 33, op := Op.call { callee := Callee.builtin Builtin.append, args := #[Operand.tmp 30, Operand.tmp 32], argTypes := #[23, 23] }, type := 23, pos := "law.go:38", after := #[{ on := 2, ground := Ground.data }, { on := 4, ground := Ground.data }], guard := none }) rfl (fun K hK => ?_) (AllReadyH.cons (o := { dst := some 7, op := Op.alloc 25, type := 0, pos := "law.go:38", after := #[], guard := none }) rfl (fun K hK => ?_) AllReadyH.nil))
      · obtain ⟨A2, c2, W2, hrun, hb2, hmp⟩ := mp_app2 (W := (w3.alloc (.cells #[] 49)).drew) (g := w3.heap.size) th HF.out (fun g hg => hg) (by omega) (((Below.refl _ _).alloc (Nat.le_refl _) _).drew) (rown_same (own_two w3 (Nat.le_refl _)) fun _ _ => rfl)
        refine step_append_eq rfl _ _ 23 23 rfl rfl (by simp [Act.eval]) (by simp [Act.eval]) hrun ?_
        refine hK.out _ _ (HC.out _ hb2) (fun hHeld => ?_)
        clear hK K
        try simp only [Act.put, List.setIfInBounds_toArray, List.set_cons_zero, List.set_cons_succ]
        refine wpAnyH_take (i := 6) (oi := { dst := some 34, op := Op.build 25 #[(0, Operand.tmp 29), (1, Operand.tmp 33)], type := 25, pos := "law.go:38", after := #[{ on := 1, ground := Ground.data }, { on := 5, ground := Ground.data }], guard := none }) (v := ?v5) rfl (by kernel_rfl) (by kernel_rfl) (by kernel_rfl) (fun _ _ _ h => h) (Or.inl ⟨by rfl, ?y5⟩) hHeld ?r5
        case y5 => (intro W hSw; (try dsimp only at hSw); go_simp; try with_reducible rfl)
        try simp only [Act.put, List.setIfInBounds_toArray, List.set_cons_zero, List.set_cons_succ]
        refine wpAnyH_ready (rs := [7]) (by kernel_rfl) (by simp) (AllReadyH.cons (o := { dst := some 7, op := Op.alloc 25, type := 0, pos := "law.go:38", after := #[], guard := none }) rfl (fun K hK => ?_) AllReadyH.nil)
        go_simp
        refine hK.out _ _ (HC.out _ (hb2.alloc hb2.size _)) (fun hHeld => ?_)
        clear hK K
        try simp only [Act.put, List.setIfInBounds_toArray, List.set_cons_zero, List.set_cons_succ]
        refine wpAnyH_ready (rs := [8]) (by kernel_rfl) (by simp) (AllReadyH.cons (o := { dst := none, op := Op.store 25 (Operand.tmp 7) (Operand.tmp 34), type := 0, pos := "law.go:38", after := #[{ on := 7, ground := Ground.data }, { on := 6, ground := Ground.data }, { on := 5, ground := Ground.chain }, { on := 0, ground := Ground.phase }, { on := 1, ground := Ground.phase }, { on := 2, ground := Ground.phase }, { on := 3, ground := Ground.phase }, { on := 4, ground := Ground.phase }, { on := 5, ground := Ground.phase }, { on := 6, ground := Ground.phase }, { on := 7, ground := Ground.phase }], guard := none }) rfl (fun K hK => ?_) AllReadyH.nil)
        go_simp
        refine hK.out _ _ (HC.out _ hmp.be) (fun hHeld => ?_)
        clear hK K
        try simp only [Act.put, List.setIfInBounds_toArray, List.set_cons_zero, List.set_cons_succ]
        refine wpAnyH_done (by kernel_rfl) ?_ _
        (try go_wp2_with fail)
        go_meet
        exact ⟨_, A2, c2, rfl, ⟨hmp⟩⟩
      · go_simp
        refine hK.out _ _ (HC.out _ ((((Below.refl _ _).alloc (Nat.le_refl _) _).alloc (by simp) _).drew)) (fun hHeld => ?_)
        clear hK K
        try simp only [Act.put, List.setIfInBounds_toArray, List.set_cons_zero, List.set_cons_succ]
        refine wpAnyH_ready (rs := [5]) (by kernel_rfl) (by simp) (AllReadyH.cons (o := { dst := some 33, op := Op.call { callee := Callee.builtin Builtin.append, args := #[Operand.tmp 30, Operand.tmp 32], argTypes := #[23, 23] }, type := 23, pos := "law.go:38", after := #[{ on := 2, ground := Ground.data }, { on := 4, ground := Ground.data }], guard := none }) rfl (fun K hK => ?_) AllReadyH.nil)
        obtain ⟨A2, c2, W2, hrun, hb2, hl2, hmp⟩ := mp_app (W := ((w3.alloc (.cells #[] 49)).alloc (.cells #[.string ⟨#[]⟩, .slice none 0 0] 25)).drew) (g := w3.heap.size) (gm := w3.heap.size + 1) th HF.out (fun g hg => hg) (by omega) ((((Below.refl _ _).alloc (Nat.le_refl _) _).alloc (by simp) _).drew) (rown_same (own_two w3 (Nat.le_refl _)) fun g e => Below.heap_alloc _ _ _ (rown_lt (own_two w3 (Nat.le_refl _)) e).2) (Lies.drew (by have := Lies.new (w3.alloc (.cells #[] 49)) 25 #[.string ⟨#[]⟩, .slice none 0 0]; simpa using this)) (by omega)
        have v0 := hl2.cell 0
        have v1 := hl2.cell 1
        have f0 := hl2.frozen 0
        have f1 := hl2.frozen 1
        simp at v0 v1
        refine step_append_eq rfl _ _ 23 23 rfl rfl (by simp [Act.eval]) (by simp [Act.eval]) hrun ?_
        refine hK.out _ _ (HC.out _ hb2) (fun hHeld => ?_)
        clear hK K
        try simp only [Act.put, List.setIfInBounds_toArray, List.set_cons_zero, List.set_cons_succ]
        refine wpAnyH_take (i := 6) (oi := { dst := some 34, op := Op.build 25 #[(0, Operand.tmp 29), (1, Operand.tmp 33)], type := 25, pos := "law.go:38", after := #[{ on := 1, ground := Ground.data }, { on := 5, ground := Ground.data }], guard := none }) (v := ?v6) rfl (by kernel_rfl) (by kernel_rfl) (by kernel_rfl) (fun _ _ _ h => h) (Or.inl ⟨by rfl, ?y6⟩) hHeld ?r6
        case y6 => (intro W hSw; (try dsimp only at hSw); go_simp; try with_reducible rfl)
        try simp only [Act.put, List.setIfInBounds_toArray, List.set_cons_zero, List.set_cons_succ]
        refine wpAnyH_ready (rs := [8]) (by kernel_rfl) (by simp) (AllReadyH.cons (o := { dst := none, op := Op.store 25 (Operand.tmp 7) (Operand.tmp 34), type := 0, pos := "law.go:38", after := #[{ on := 7, ground := Ground.data }, { on := 6, ground := Ground.data }, { on := 5, ground := Ground.chain }, { on := 0, ground := Ground.phase }, { on := 1, ground := Ground.phase }, { on := 2, ground := Ground.phase }, { on := 3, ground := Ground.phase }, { on := 4, ground := Ground.phase }, { on := 5, ground := Ground.phase }, { on := 6, ground := Ground.phase }, { on := 7, ground := Ground.phase }], guard := none }) rfl (fun K hK => ?_) AllReadyH.nil)
        go_simp
        refine hK.out _ _ (HC.out _ hmp.be) (fun hHeld => ?_)
        clear hK K
        try simp only [Act.put, List.setIfInBounds_toArray, List.set_cons_zero, List.set_cons_succ]
        refine wpAnyH_done (by kernel_rfl) ?_ _
        (try go_wp2_with fail)
        go_meet
        exact ⟨_, A2, c2, rfl, ⟨hmp⟩⟩
    · go_simp
      refine hK.out _ _ (HC.out _ (((Below.refl _ _).alloc (Nat.le_refl _) _).drew)) (fun hHeld => ?_)
      clear hK K
      try simp only [Act.put, List.setIfInBounds_toArray, List.set_cons_zero, List.set_cons_succ]
      refine wpAnyH_ready (rs := [2]) (by kernel_rfl) (by simp) (AllReadyH.cons (o := { dst := some 30, op := Op.buildSlice 23 0 #[], type := 23, pos := "law.go:38", after := #[], guard := none }) rfl (fun K hK => ?_) AllReadyH.nil)
      go_simp
      refine hK.out _ _ (HC.out _ ((((Below.refl _ _).alloc (Nat.le_refl _) _).alloc (by simp) _).drew)) (fun hHeld => ?_)
      clear hK K
      try simp only [Act.put, List.setIfInBounds_toArray, List.set_cons_zero, List.set_cons_succ]
      refine wpAnyH_ready (rs := [5]) (by kernel_rfl) (by simp) (AllReadyH.cons (o := { dst := some 33, op := Op.call { callee := Callee.builtin Builtin.append, args := #[Operand.tmp 30, Operand.tmp 32], argTypes := #[23, 23] }, type := 23, pos := "law.go:38", after := #[{ on := 2, ground := Ground.data }, { on := 4, ground := Ground.data }], guard := none }) rfl (fun K hK => ?_) AllReadyH.nil)
      obtain ⟨A2, c2, W2, hrun, hb2, hl2, hmp⟩ := mp_app (W := ((w3.alloc (.cells #[.string ⟨#[]⟩, .slice none 0 0] 25)).alloc (.cells #[] 49)).drew) (g := w3.heap.size + 1) (gm := w3.heap.size) th HF.out (fun g hg => hg) (by omega) ((((Below.refl _ _).alloc (Nat.le_refl _) _).alloc (by simp) _).drew) (rown_same (w := (w3.alloc (.cells #[.string ⟨#[]⟩, .slice none 0 0] 25)).alloc (.cells #[] 49)) (by have := own_two (w3.alloc (.cells #[.string ⟨#[]⟩, .slice none 0 0] 25)) (B := w3.heap.size) (by simp); simpa using this) fun _ _ => rfl) (((Lies.new w3 25 #[.string ⟨#[]⟩, .slice none 0 0]).alloc _).drew) (Nat.le_refl _)
      have v0 := hl2.cell 0
      have v1 := hl2.cell 1
      have f0 := hl2.frozen 0
      have f1 := hl2.frozen 1
      simp at v0 v1
      refine step_append_eq rfl _ _ 23 23 rfl rfl (by simp [Act.eval]) (by simp [Act.eval]) hrun ?_
      refine hK.out _ _ (HC.out _ hb2) (fun hHeld => ?_)
      clear hK K
      try simp only [Act.put, List.setIfInBounds_toArray, List.set_cons_zero, List.set_cons_succ]
      refine wpAnyH_take (i := 6) (oi := { dst := some 34, op := Op.build 25 #[(0, Operand.tmp 29), (1, Operand.tmp 33)], type := 25, pos := "law.go:38", after := #[{ on := 1, ground := Ground.data }, { on := 5, ground := Ground.data }], guard := none }) (v := ?v7) rfl (by kernel_rfl) (by kernel_rfl) (by kernel_rfl) (fun _ _ _ h => h) (Or.inl ⟨by rfl, ?y7⟩) hHeld ?r7
      case y7 => (intro W hSw; (try dsimp only at hSw); go_simp; try with_reducible rfl)
      try simp only [Act.put, List.setIfInBounds_toArray, List.set_cons_zero, List.set_cons_succ]
      refine wpAnyH_ready (rs := [8]) (by kernel_rfl) (by simp) (AllReadyH.cons (o := { dst := none, op := Op.store 25 (Operand.tmp 7) (Operand.tmp 34), type := 0, pos := "law.go:38", after := #[{ on := 7, ground := Ground.data }, { on := 6, ground := Ground.data }, { on := 5, ground := Ground.chain }, { on := 0, ground := Ground.phase }, { on := 1, ground := Ground.phase }, { on := 2, ground := Ground.phase }, { on := 3, ground := Ground.phase }, { on := 4, ground := Ground.phase }, { on := 5, ground := Ground.phase }, { on := 6, ground := Ground.phase }, { on := 7, ground := Ground.phase }], guard := none }) rfl (fun K hK => ?_) AllReadyH.nil)
      go_simp
      refine hK.out _ _ (HC.out _ hmp.be) (fun hHeld => ?_)
      clear hK K
      try simp only [Act.put, List.setIfInBounds_toArray, List.set_cons_zero, List.set_cons_succ]
      refine wpAnyH_done (by kernel_rfl) ?_ _
      (try go_wp2_with fail)
      go_meet
      exact ⟨_, A2, c2, rfl, ⟨hmp⟩⟩
  case rest =>
    obtain ⟨gm, Am, cm, rfl, HM⟩ := hcut
    have hb := HM.out.be
    have hHH := tfat_next HH3.out hb
    have hB1 := HB13.out.below hb HB13.out.lt
    obtain ⟨bs, q, hbs, hpk⟩ := print_two th fh
    obtain ⟨m, hm⟩ : ∃ m, bs.length = m := ⟨_, rfl⟩
    have HR := Bx.mk (rprint_any hHH (fun g hg => hg) HZ.out)
    have HPK := Bx.mk hpk
    have HBM := Bx.mk hm
    have hm5 : m ≤ 512 := by omega
    have HHH := Bx.mk hHH
    have HGG := Bx.mk (tfat_next HG3.out hb)
    have HB1 := Bx.mk hB1
    have HB2 := Bx.mk (HB23.out.below hb HB23.out.lt)
    have HFM := Bx.mk (rowF_at HM.out.fm HH3.out.len)
    have HLM := Bx.mk HM.out.bm
    have HBE := Bx.mk (HBE3.out.trans (hb.mono HBE3.out.size))
    have x0 := hB1.cell 0; have x1 := hB1.cell 1
    simp at x0 x1
    clear hbs hpk hm hHH hB1 hb HH3 HG3 HB13 HB23 HM HBE3 HF HC b0
    go_wp2_with fail
    refine HR.out.mono ?_
    intro en w5 hp
    obtain ⟨Aw, cw, rfl, hpb, hb⟩ := HPK.out _ _ _ hp
    rw [HBM.out]
    have HPW := Bx.mk (hpb.spell HBM.out)
    have HHH5 := Bx.mk (tfat_next HHH.out hb)
    have HGG5 := Bx.mk (tfat_next HGG.out hb)
    have HFM5 := Bx.mk (tfat_next HFM.out hb)
    have HB15 := Bx.mk (HB1.out.below hb HB1.out.lt)
    have HB25 := Bx.mk (HB2.out.below hb HB2.out.lt)
    have HLM5 := Bx.mk (HLM.out.below hb HLM.out.lt)
    have HBE5 := Bx.mk (HBE.out.trans (hb.mono HBE.out.size))
    have x0 := HB15.out.cell 0; have x1 := HB15.out.cell 1
    simp at x0 x1
    have HV := Bx.mk (RValues_any (l := th) HHH5.out (fun g hg => hg) (by omega) name)
    clear hp hpb hb HR HHH HGG HFM HB1 HB2 HLM HBE
    go_wp2_with fail
    refine HV.out.mono ?_
    rintro e w6 ⟨Av, cv, rfl, hvr, hb⟩
    obtain ⟨vs, hvs⟩ : ∃ vs, vals fh name = vs := ⟨_, rfl⟩
    rw [hvs] at hvr ⊢
    obtain ⟨k, hk⟩ : ∃ k, vs.length = k := ⟨_, rfl⟩
    rw [hk] at hvr ⊢
    have HVS := Bx.mk hvs
    have HK := Bx.mk hk
    have hk30 : k ≤ 30 := by
      have := vals_len fh name
      rw [hvs, hk, HHH5.out.len] at this
      omega
    have H0 : Bx (PS w w6 th fh Ah nh ch tg fg Ag ng cg gm Am cm Aw m cw bs Av k cv vs) := ⟨⟨HB15.out.below hb HB15.out.lt, HB25.out.below hb HB25.out.lt, tfat_next HHH5.out hb, tfat_next HGG5.out hb, HLM5.out.below hb HLM5.out.lt, tfat_next HFM5.out hb, tsp_next HPW.out hb, rown_weak hvr HBE5.out.size, HBE5.out.trans (hb.mono HBE5.out.size)⟩⟩
    clear hvr hb hvs hk x0 x1 HV HPW HHH5 HGG5 HFM5 HB15 HB25 HLM5 HBE5
    go_wp2_with fail
    go_loopw [11, 12, 13, 14, 15, 16] (fun s11 s12 s13 s14 s15 s16 wr => ∃ i : Nat, i ≤ 2 ∧ s11 = .int .i64 (i : Int) ∧ Bx (PS w wr th fh Ah nh ch tg fg Ag ng cg gm Am cm Aw m cw bs Av k cv vs)) (fun s11 _ _ _ _ _ _ => 2 - (intOf s11).toNat)
    case atStart => exact ⟨0, Nat.zero_le _, rfl, H0⟩
    case round =>
      clear H0
      obtain ⟨wo, rfl⟩ : ∃ x, x = wr := ⟨wr, rfl⟩
      obtain ⟨i, hi, rfl, H⟩ := hrel
      by_cases hlt : i < 2
      · have hlt' : (i : Int) < 2 := by omega
        have z0 := H.out.bm.cell 0; have z1 := H.out.bm.cell 1
        simp at z0 z1
        have HP := Bx.mk (print_any (l := th) H.out.fm (fun g hg => hg) HZ.out)
        go_wp2_with fail
        refine HP.out.mono ?_
        intro en w7 hp
        obtain ⟨Ab, cb, rfl, hpb, hb7⟩ := HPK.out _ _ _ hp
        rw [HBM.out]
        have H7 := Bx.mk (H.out.next hb7)
        have HPB := Bx.mk hpb
        have HB7 := Bx.mk hb7
        have z0 := H7.out.bm.cell 0; have z1 := H7.out.bm.cell 1
        simp at z0 z1
        have HV := Bx.mk (Values_any (l := th) H7.out.fm (fun g hg => hg) (by omega) name)
        clear hp hpb hb7 HP
        go_wp2_with fail
        refine HV.out.mono ?_
        rintro e w8 ⟨Al, cl, rfl, hlr, hb8⟩
        rw [HVS.out] at hlr ⊢
        rw [HK.out] at hlr ⊢
        have H8 := Bx.mk (H7.out.next hb8)
        have hp8 : PB w8 wo.heap.size Ab cb bs := by
          rcases HPB.out with h | h
          · exact .inl (h.below hb8)
          · exact .inr h
        have HT : Bx (TS wo w8 Al k cl vs Ab m cb bs) := ⟨⟨HB7.out.trans (hb8.mono HB7.out.size), rown_weak hlr HB7.out.size, HK.out, hp8, HBM.out⟩⟩
        have hcv1 : (convert 22 9 (.slice Ab m cb)).run Tryd.prog w8 = .ok (.string (S bs)) w8 := spell_str (hp8.spell HBM.out)
        have hcv2 : (convert 22 9 (.slice Aw m cw)).run Tryd.prog w8 = .ok (.string (S bs)) w8 := spell_str H8.out.pw
        have hs1 := (str_eq bs).1
        clear hlr hb8 hp8 HV H7 HPB HB7 H8 z0 z1
        go_wp2_with fail
        clear hcv1 hcv2 hs1
        go_loopw [15] (fun s15 wq => ∃ (j : Nat) (ls : List Str), j ≤ k ∧ s15 = .int .i64 (j : Int) ∧ Bx (TS wo wq Al k cl ls Ab m cb bs) ∧ Bx (∀ i, j ≤ i → ls[i]? = vs[i]?)) (fun s15 _ => k - (intOf s15).toNat)
        case atStart => exact ⟨0, vs, Nat.zero_le _, rfl, HT, ⟨fun i hi => rfl⟩⟩
        case round =>
          clear HT
          obtain ⟨j, ls, hj, rfl, HT, HL⟩ := hrel
          by_cases hjk : j < k
          · obtain ⟨x, hx⟩ : ∃ x, vs[j]? = some x := ⟨_, List.getElem?_eq_getElem (by rw [HK.out]; exact hjk)⟩
            have hlx : ls[j]? = some x := by rw [HL.out j (Nat.le_refl _)]; exact hx
            obtain ⟨gl, rfl, hc, hf, _⟩ := HT.out.atL hlx
            obtain ⟨gv, rfl, hcv⟩ := strv_cell (rown_same H.out.vr fun g hg => HT.out.be.block g (rown_lt H.out.vr hg).2) HK.out hx
            have HSet : Bx (∀ i, TS wo ((wr.drewN i).setCell ⟨gl, j, none⟩ (.string (S [115, 112, 111, 105, 108, 116]))) (some ⟨gl, 0, none⟩) k cl (ls.set j [115, 112, 111, 105, 108, 116]) Ab m cb bs) := ⟨fun i => by
              obtain ⟨g', hA, _, _, hset⟩ := (HT.out.drewN i).atL hlx
              simp at hA
              subst hA
              exact hset _⟩
            have HL2 : Bx (∀ i, j + 1 ≤ i → (ls.set j [115, 112, 111, 105, 108, 116])[i]? = vs[i]?) := ⟨fun i hi => by
              rw [List.getElem?_set_ne (by omega)]
              exact HL.out i (by omega)⟩
            have j0 : (0 : Int) ≤ (j : Int) := by omega
            have j1 : (j : Int) < (k : Int) := by omega
            have hs2 := (str_eq x).1
            clear hx hlx HT HL
            go_wp2_with fail
            go_quiet (fail)
            go_wp2_with fail
            go_roundw
            case rel => exact ⟨j + 1, _, by omega, by go_num, ⟨HSet.out _⟩, HL2⟩
            case measure => simp [intOf]; omega
          · obtain rfl : j = k := by omega
            have j1 : ¬ (j : Int) < (j : Int) := by omega
            have HT2 : Bx (∃ ls bs', TS wo wr Al j cl ls Ab m cb bs') := ⟨⟨ls, bs, HT.out⟩⟩
            clear HT HL hjk
            go_wp2_with fail
            go_loopw [16] (fun s16 wq => ∃ a : Nat, a ≤ m ∧ s16 = .int .i64 (a : Int) ∧ Bx (∃ ls bs', TS wo wq Al j cl ls Ab m cb bs')) (fun s16 _ => m - (intOf s16).toNat)
            case atStart => exact ⟨0, Nat.zero_le _, rfl, HT2⟩
            case round =>
              clear HT2
              obtain ⟨a, ha, rfl, HT⟩ := hrel
              by_cases ham : a < m
              · obtain ⟨ls, bs', hT⟩ := HT.out
                obtain ⟨g, x, rfl, hc, hf, hset⟩ := hT.atB ham
                have HSet : Bx (∃ ls bs', TS wo (wr.setCell ⟨g, a, none⟩ (.int .u8 ((x + 1).toNat : Int))) Al j cl ls (some ⟨g, 0, none⟩) m cb bs') := ⟨⟨_, _, hset (x + 1)⟩⟩
                have a0 : (0 : Int) ≤ (a : Int) := by omega
                have a1 : (a : Int) < (m : Int) := by omega
                have hw := u8_inc x
                generalize ((x + 1).toNat : Int) = z1 at *
                generalize (x.toNat : Int) = z at *
                clear hT hset HT
                go_wp2_with fail
                go_roundw
                case rel => exact ⟨a + 1, by omega, by go_num, HSet⟩
                case measure => simp [intOf]; omega
              · obtain rfl : a = m := by omega
                have a1 : ¬ (a : Int) < (a : Int) := by omega
                have HNX : Bx (PS w wr th fh Ah nh ch tg fg Ag ng cg gm Am cm Aw a cw bs Av j cv vs) := ⟨by
                  obtain ⟨_, _, hT⟩ := HT.out
                  exact H.out.next hT.be⟩
                clear HT H ham
                go_wp2_with fail
                go_roundw
                case rel => exact ⟨i + 1, by omega, by go_num, HNX⟩
                case measure => simp [intOf]; omega
      · obtain rfl : i = 2 := by omega
        obtain ⟨r, hr⟩ : ∃ r, decide (th = tg ∧ fh = fg) = r := ⟨_, rfl⟩
        have HHl : Bx (fh.length = nh) := ⟨H.out.fh.len⟩
        have C1 : Bx (∀ W, Below wo.heap.size wo W → Calls Tryd.prog 11 #[.agg #[.string (S th), .slice Am nh cm], .agg #[.string (S th), .slice Ah nh ch]] W (Gives (.bool true) W)) := ⟨fun W hb => by
          have h := RSame_any (w := W) (la := th) (lb := th) (tfat_next H.out.fm hb) (fun g hg => hg) (tfat_next H.out.fh hb) (fun g hg => hg) (by omega)
          rwa [decide_eq_true (⟨rfl, rfl⟩ : th = th ∧ fh = fh)] at h⟩
        have C2 : Bx (∀ W, Below wo.heap.size wo W → Calls Tryd.prog 17 #[.agg #[.string (S th), .slice Ah nh ch], .agg #[.string (S tg), .slice Ag ng cg]] W (Gives (.bool r) W)) := ⟨fun W hb => by
          have h := Same_any (w := W) (la := th) (lb := tg) ⟨Ah, _, ch, rfl, tfat_next H.out.fh hb⟩ (fun g hg => hg) ⟨Ag, _, cg, rfl, tfat_next H.out.fg hb⟩ (fun g hg => hg) (by rw [HHl.out]; omega)
          rwa [hr] at h⟩
        have C3 : Bx (∀ W, Below wo.heap.size wo W → Calls Tryd.prog 11 #[.agg #[.string (S th), .slice Ah nh ch], .agg #[.string (S tg), .slice Ag ng cg]] W (Gives (.bool r) W)) := ⟨fun W hb => by
          have h := RSame_any (w := W) (la := th) (lb := tg) (tfat_next H.out.fh hb) (fun g hg => hg) (tfat_next H.out.fg hb) (fun g hg => hg) (by omega)
          rwa [hr] at h⟩
        have C4 : Bx (∀ W, Below wo.heap.size wo W → Calls Tryd.prog 17 #[.agg #[.string (S th), .slice Am nh cm], .agg #[.string (S th), .slice Ah nh ch]] W (Gives (.bool true) W)) := ⟨fun W hb => by
          have h := Same_any (w := W) (la := th) (lb := th) ⟨Am, _, cm, rfl, tfat_next H.out.fm hb⟩ (fun g hg => hg) ⟨Ah, _, ch, rfl, tfat_next H.out.fh hb⟩ (fun g hg => hg) (by rw [HHl.out]; omega)
          rwa [decide_eq_true (⟨rfl, rfl⟩ : th = th ∧ fh = fh)] at h⟩
        have C5 := Bx.mk (Name_any name (by have := HNm.out; omega))
        have C6 := Bx.mk (RName_any name (by have := HNm.out; omega))
        have C7 := Bx.mk (Lower_any name (by have := HNm.out; omega))
        have C8 := Bx.mk (RLower_any name (by have := HNm.out; omega))
        have m0 := H.out.bm.cell 0; have m1 := H.out.bm.cell 1
        have h0 := H.out.bh.cell 0; have h1 := H.out.bh.cell 1
        have g0 := H.out.bg.cell 0; have g1 := H.out.bg.cell 1
        simp at m0 m1 h0 h1 g0 g1
        have HBE := Bx.mk H.out.be
        have HC : Bx (∀ W', Below wo.heap.size wo W' → W'.cell? ⟨gm, 0, none⟩ = some (.string (S th)) ∧ W'.cell? ⟨gm, 1, none⟩ = some (.slice Am nh cm) ∧ W'.cell? ⟨w.heap.size, 0, none⟩ = some (.string (S th)) ∧ W'.cell? ⟨w.heap.size, 1, none⟩ = some (.slice Ah nh ch) ∧ W'.cell? ⟨w.heap.size + 1, 0, none⟩ = some (.string (S tg)) ∧ W'.cell? ⟨w.heap.size + 1, 1, none⟩ = some (.slice Ag ng cg)) := ⟨fun W' hb => ⟨cell_kept m0 hb, cell_kept m1 hb, cell_kept h0 hb, cell_kept h1 hb, cell_kept g0 hb, cell_kept g1 hb⟩⟩
        have b0 : Below wo.heap.size wo wo.drew := (Below.refl _ _).drew
        have hs3 := (str_eq (low name)).1
        generalize isN name = nn at *
        generalize low name = lo at *
        clear m0 m1 h0 h1 g0 g1 hr H hlt
        go_wp2_with fail
        go_upto_region 23 with fail
        go_region_held3 (fun W' => W'.cell? ⟨gm, 0, none⟩ = some (.string (S th)) ∧ W'.cell? ⟨gm, 1, none⟩ = some (.slice Am nh cm) ∧ W'.cell? ⟨w.heap.size, 0, none⟩ = some (.string (S th)) ∧ W'.cell? ⟨w.heap.size, 1, none⟩ = some (.slice Ah nh ch) ∧ W'.cell? ⟨w.heap.size + 1, 0, none⟩ = some (.string (S tg)) ∧ W'.cell? ⟨w.heap.size + 1, 1, none⟩ = some (.slice Ag ng cg))
          (exact HC.out _ b0)
          (first
            | (go_at_call 11; refine (C1.out _ b0).mono ?_; rintro e w9 ⟨rfl, hb9⟩; replace b0 := b0.trans (hb9.mono b0.size); clear hb9 C1)
            | (go_at_call 17; refine (C2.out _ b0).mono ?_; rintro e w9 ⟨rfl, hb9⟩; replace b0 := b0.trans (hb9.mono b0.size); clear hb9 C2)
            | (go_at_call 11; refine (C3.out _ b0).mono ?_; rintro e w9 ⟨rfl, hb9⟩; replace b0 := b0.trans (hb9.mono b0.size); clear hb9 C3)
            | (go_at_call 17; refine (C4.out _ b0).mono ?_; rintro e w9 ⟨rfl, hb9⟩; replace b0 := b0.trans (hb9.mono b0.size); clear hb9 C4)
            | (go_at_call 18; refine (C5.out _).mono ?_; rintro e w9 ⟨rfl, hw9⟩; replace hw9 := hw9.symm; subst hw9; clear C5)
            | (go_at_call 19; refine (C6.out _).mono ?_; rintro e w9 ⟨rfl, hw9⟩; replace hw9 := hw9.symm; subst hw9; clear C6)
            | (go_at_call 20; refine (C7.out _).mono ?_; rintro e w9 ⟨rfl, hb9⟩; replace b0 := b0.trans (hb9.mono b0.size); clear hb9 C7)
            | (go_at_call 21; refine (C8.out _).mono ?_; rintro e w9 ⟨rfl, hb9⟩; replace b0 := b0.trans (hb9.mono b0.size); clear hb9 C8))
        have HE := Bx.mk (HBE.out.trans (b0.mono HBE.out.size))
        clear b0 HC
        go_wp2_with fail
        exact bodyPost_ret (v := .bool true) (by simp [results, Tryd.results4, go_sem]) rfl ⟨rfl, HE.out⟩
end Go.Proofs.YtkclhfoeimbikaaDoor.hd
