/-
  Given for the seat's laws: the contract of the program's Take. No condition but those of the theorem.
-/
import Derived.Test.YtghdaengkgiekaaGreatDoorYKStep
namespace Go.Proofs.YtghdaengkgiekaaGreatDoor.hd
open Go.RowKit mem
set_option linter.unusedVariables false

theorem enters {f : FuncId} {fn : Func} (hf : Tryz.prog.funcs[f]? = some fn) (h1 : (fn.name == "runtime.NumGoroutine") = false) (h2 : fn.body.isNone = false) (args : Array Value) (W : World) :
    (callFunc f args).run Tryz.prog W = .ok (.enter f args) W := by
  have h3 : ¬ fn.name = "runtime.NumGoroutine" := by simpa using h1
  have h4 : ¬ fn.body = none := fun e => by rw [e] at h2; cases h2
  simp [callFunc, hf, h3, h4]
/-- one byte, whatever state it is -/
theorem step_any {B : Nat} {W : World} {g : Nat} {t : T} (H : Tk B W g t) (ho : t.st ≠ .over) (x : UInt8) (hl : t.part.length ≤ 100000) (hf : t.fs.length ≤ 16) :
    ∃ k, fnv t.st = .func (.func k) #[] #[] ∧ (∀ (args : Array Value) (W : World), (callFunc k args).run Tryz.prog W = .ok (.enter k args) W) ∧ Calls Tryz.prog k #[.pointer (some ⟨g, 0, none⟩), .int .u8 (x.toNat : Int)] W (Went B W g (step t x)) := by
  cases hs : t.st with
  | first => exact ⟨_, rfl, enters Tryz.func40 (by kernel_rfl) (by kernel_rfl), first_any H hs x hl⟩
  | within => exact ⟨_, rfl, enters Tryz.func70 (by kernel_rfl) (by kernel_rfl), within_any H hs x hl⟩
  | half => exact ⟨_, rfl, enters Tryz.func92 (by kernel_rfl) (by kernel_rfl), half_any H hs x⟩
  | begin => exact ⟨_, rfl, enters Tryz.func112 (by kernel_rfl) (by kernel_rfl), begin_any H hs x hl hf⟩
  | named => exact ⟨_, rfl, enters Tryz.func135 (by kernel_rfl) (by kernel_rfl), named_any H hs x hl⟩
  | valued => exact ⟨_, rfl, enters Tryz.func151 (by kernel_rfl) (by kernel_rfl), valued_any H hs x hl hf⟩
  | last => exact ⟨_, rfl, enters Tryz.func134 (by kernel_rfl) (by kernel_rfl), last_any H hs x⟩
  | over => exact absurd hs ho
theorem inv_part {t : T} {i : Nat} (h : Inv t i) (hi : i ≤ 600) : t.part.length ≤ 100000 := by
  obtain ⟨st, line, fs, name, part⟩ := t
  have h5 := h.part
  have h6 := h.size
  cases st <;> simp at h5 h6 ⊢ <;> first | (subst h5; simp) | omega

def hv (x : R) (v : Value) : Value := .tuple #[.agg #[.string (S x.1), v], .int .i64 (x.2.2.1 : Int), .int .i64 (x.2.2.2 : Int)]
def TakeTo (x : R) (w : World) (e : Ending) (w' : World) : Prop := ∃ v, e = .returned (hv x v) ∧ RowF w' w.heap.size v x.2.1 ∧ Below w.heap.size w w'
/-- how the loop stands -/
structure Lp (w wr : World) (b : Str) (i : Nat) (t : T) : Prop where
  tk : Tk (w.heap.size + 1) wr (w.heap.size + 1) t
  inv : Inv t i
  ne : t.st ≠ .over
  eq : take b = go t i (b.drop i)
  be : Below w.heap.size w wr
  hd : Lies wr w.heap.size 47 #[.string ⟨#[]⟩, .slice none 0 0]
  lt : i < 512
theorem rowF_nil (W : World) (B : Nat) : RowF W B (.slice none 0 0) [] := World.ownsRow_nil W _ _ _
theorem lp_start (w : World) (b : Str) {W : World} (hW : W = ((w.alloc (.cells #[.string ⟨#[]⟩, .slice none 0 0] 47)).alloc (.cells #[fnv .first, .string ⟨#[]⟩, .slice none 0 0, .string ⟨#[]⟩, .slice none 0 0] 79))) : Lp w W b 0 start := by
  subst hW
  have h1 := Lies.new w 47 #[.string ⟨#[]⟩, .slice none 0 0]
  have h2 := Lies.new (w.alloc (.cells #[.string ⟨#[]⟩, .slice none 0 0] 47)) 79 #[fnv .first, .string ⟨#[]⟩, .slice none 0 0, .string ⟨#[]⟩, .slice none 0 0]
  have z1 : (w.alloc (.cells #[.string ⟨#[]⟩, .slice none 0 0] 47)).heap.size = w.heap.size + 1 := by simp
  rw [z1] at h2
  refine ⟨⟨none, 0, 0, none, 0, 0, h2, rowF_nil _ _, World.ownsRow_nil _ _ _ _, rfl, rfl, Nat.le_refl _⟩, inv_start, by decide, rfl, ((Below.refl _ _).alloc (Nat.le_refl _) _).alloc (by simp) _, h1.alloc _, by omega⟩
theorem results_head {W : World} {h : Nat} {x y : Value} (c0 : W.cell? ⟨h, 0, none⟩ = some x) (c1 : W.cell? ⟨h, 1, none⟩ = some y) (tmps : Array Value) (h2 : tmps[2]?.getD undef = .pointer (some ⟨h, 0, none⟩)) {v3 v4 : Value} (h3 : tmps[3]?.getD undef = v3) (h4 : tmps[4]?.getD undef = v4) :
    (results Tryz.f19 tmps).run Tryz.prog W = .ok (.tuple #[.agg #[x, y], v3, v4]) W := by
  simp [results, Tryz.results19, go_sem, h2, h3, h4, c0, c1]
/-- the end with an error -/
theorem lp_err {w wr W : World} {b : Str} {i : Nat} {t : T} (h : Lp w wr b i t) (hb : Below (w.heap.size + 1) wr W) {e : Nat} (he : take b = ([], [], 0, e)) :
    Lies W w.heap.size 47 #[.string ⟨#[]⟩, .slice none 0 0] ∧ TakeTo (take b) w (.returned (.tuple #[.agg #[.string ⟨#[]⟩, .slice none 0 0], .int .i64 0, .int .i64 (e : Int)])) ((W.setCell ⟨w.heap.size, 0, none⟩ (.string ⟨#[]⟩)).setCell ⟨w.heap.size, 1, none⟩ (.slice none 0 0)) := by
  refine ⟨h.hd.below hb (by omega), ?_⟩
  rw [he]
  exact ⟨.slice none 0 0, rfl, rowF_nil _ _, ((h.be.trans (hb.mono (by omega))).setCell (by simp) _).setCell (by simp) _⟩
theorem fn_ne (k : FuncId) (W : World) : (binOp .eql 75 (.func (.func k) #[] #[]) .nilFunc).run Tryz.prog W = .ok (.bool false) W := by
  have h : ∀ d : Nat, (Op.equalIn (d + 1) 75 (.func (.func k) #[] #[]) .nilFunc).run Tryz.prog W = .ok false W := fun d => by
    simp [Op.equalIn, run_underlying Tryz.underlying75]
  simp only [binOp]
  simp [Op.equal, Op.maxDepth, h 9999]
theorem fn_eq (W : World) : (binOp .eql 75 .nilFunc .nilFunc).run Tryz.prog W = .ok (.bool true) W := by
  have h : ∀ d : Nat, (Op.equalIn (d + 1) 75 .nilFunc .nilFunc).run Tryz.prog W = .ok true W := fun d => by
    simp [Op.equalIn, run_underlying Tryz.underlying75]
  simp only [binOp]
  simp [Op.equal, Op.maxDepth, h 9999]
theorem drop_cons {b : Str} {i : Nat} {x : UInt8} (h : b[i]? = some x) : b.drop i = x :: b.drop (i + 1) := by
  obtain ⟨hi, rfl⟩ := List.getElem?_eq_some_iff.1 h
  exact List.drop_eq_getElem_cons hi
theorem lp_bad {w wr : World} {b : Str} {i : Nat} {t : T} (h : Lp w wr b i t) {x : UInt8} (hx : b[i]? = some x) {e : Nat} (he : step t x = .error e) : take b = ([], [], 0, e) := by
  rw [h.eq, drop_cons hx]
  simp [go, he]
theorem lp_over {w wr : World} {b : Str} {i : Nat} {t t' : T} (h : Lp w wr b i t) {x : UInt8} (hx : b[i]? = some x) (he : step t x = .ok t') (ho : t'.st = .over) : take b = (t'.line, t'.fs, i + 1, 0) := by
  rw [h.eq, drop_cons hx]
  simp [go, he, ho]
theorem lp_long {w wr : World} {b : Str} {i : Nat} {t t' : T} (h : Lp w wr b i t) {x : UInt8} (hx : b[i]? = some x) (he : step t x = .ok t') (ho : t'.st ≠ .over) (hi : i + 1 = 512) : take b = ([], [], 0, 3) := by
  rw [h.eq, drop_cons hx]
  simp [go, he, ho, hi]
theorem lp_next {w wr : World} {b : Str} {i : Nat} {t t' : T} (h : Lp w wr b i t) {x : UInt8} (hx : b[i]? = some x) (he : step t x = .ok t') (ho : t'.st ≠ .over) (hi : i + 1 ≠ 512) {W : World} (hb : Below (w.heap.size + 1) wr W) (hk : Tk (w.heap.size + 1) W (w.heap.size + 1) t') : Lp w W b (i + 1) t' :=
  ⟨hk, inv_step h.inv he, ho, by rw [h.eq, drop_cons hx]; simp [go, he, ho, hi], h.be.trans (hb.mono (by omega)), h.hd.below hb (by omega), by have := h.lt; omega⟩
theorem lp_done {w wr : World} {b : Str} {i : Nat} {t : T} (h : Lp w wr b i t) (hi : i = b.length) : take b = ([], [], 0, 5) := by
  rw [h.eq, List.drop_of_length_le (by omega)]
  rfl
/-- the end with a head -/
theorem lp_end {w wr W : World} {b : Str} {i : Nat} {t t' : T} (h : Lp w wr b i t) (hb : Below (w.heap.size + 1) wr W) {A : Option Addr} {n c : Nat} {A2 : Option Addr} {m c2 : Nat} (hk : TkAt (w.heap.size + 1) W (w.heap.size + 1) t' A n c A2 m c2) (he : take b = (t'.line, t'.fs, i + 1, 0)) :
    Lies W w.heap.size 47 #[.string ⟨#[]⟩, .slice none 0 0] ∧ TakeTo (take b) w (.returned (.tuple #[.agg #[.string (S t'.line), .slice A n c], .int .i64 ((i + 1 : Nat) : Int), .int .i64 0])) ((W.setCell ⟨w.heap.size, 0, none⟩ (.string (S t'.line))).setCell ⟨w.heap.size, 1, none⟩ (.slice A n c)) := by
  have hl := h.hd.below hb (show w.heap.size < w.heap.size + 1 by omega)
  refine ⟨hl, ?_⟩
  rw [he]
  refine ⟨.slice A n c, rfl, ?_, ((h.be.trans (hb.mono (by omega))).setCell (by simp) _).setCell (by simp) _⟩
  have h1 : RowF W w.heap.size (.slice A n c) t'.fs := by
    refine ⟨hk.fs.1, ?_⟩
    rcases hk.fs.2 with h0 | ⟨g, cap, cur, hv, hb, rest⟩
    · exact .inl h0
    · exact .inr ⟨g, cap, cur, hv, by omega, rest⟩
  have ne : ∀ k, (Value.slice A n c).ownBlock = some k → k ≠ w.heap.size := by
    rintro k hk2 rfl
    exact rown_ne h1 hl (by decide) hk2
  refine rown_same (rown_same h1 fun k hk2 => Below.heap_setCell _ _ _ _ (ne k hk2)) fun k hk2 => Below.heap_setCell _ _ _ _ (ne k hk2)
set_option maxHeartbeats 4000000 in
set_option maxRecDepth 100000 in
theorem take_any0 {w : World} {ok : Nat → Prop} {A : Option Addr} {n c : Nat} {b : Str} (hs : Spell w ok A n c b) (hok : ∀ g, ok g → g < w.heap.size) : Calls Tryz.prog 19 #[.slice A n c] w (TakeTo (take b) w) := by
  have HS := Bx.mk hs
  have HO := Bx.mk hok
  have HB := Bx.mk (spell_len hs)
  have hst : fnv .first = .func (.func 40) #[] #[] := rfl
  have HL := Bx.mk (@lp_start w b)
  rw [hst] at HL
  clear hs hok hst
  go_enter Tryz.func19, Tryz.ntmps19
  go_wp2_with fail
  generalize hW : ((w.alloc (.cells #[.string ⟨#[]⟩, .slice none 0 0] 47)).alloc (.cells #[.func (.func 40) #[] #[], .string ⟨#[]⟩, .slice none 0 0, .string ⟨#[]⟩, .slice none 0 0] 79)) = W0
  have H0 := Bx.mk (HL.out hW.symm)
  clear hW HL
  go_loopw [12] (fun s12 wr => ∃ (i : Nat) (t : T), i ≤ n ∧ s12 = .int .i64 (i : Int) ∧ Bx (Lp w wr b i t)) (fun s12 _ => n - (intOf s12).toNat)
  case atStart => exact ⟨0, start, by omega, rfl, H0⟩
  case round =>
    clear H0
    obtain ⟨i, t, hi, rfl, H⟩ := hrel
    by_cases hlt : i < n
    · obtain ⟨x, hx⟩ : ∃ x, b[i]? = some x := ⟨_, List.getElem?_eq_getElem (by rw [HB.out]; exact hlt)⟩
      obtain ⟨g, off, rfl, hg, hc⟩ := spell_cell (HS.out.below H.out.be HO.out) hx
      have i0 : (0 : Int) ≤ (i : Int) := by omega
      have i1 : (i : Int) < (n : Int) := by omega
      obtain ⟨k, hk, hcf, hcl⟩ := step_any H.out.tk H.out.ne x (inv_part H.out.inv (by have := H.out.lt; omega)) H.out.inv.most
      have HCF := Bx.mk hcf
      have HCL := Bx.mk hcl
      have c0 : wr.cell? ⟨w.heap.size + 1, 0, none⟩ = some (.func (.func k) #[] #[]) := by
        obtain ⟨_, _, _, _, _, _, h⟩ := H.out.tk
        have := h.lies.cell 0
        rw [hk] at this
        exact this
      have HX := Bx.mk hx
      have HK := Bx.mk hk
      have hw1 : IntKind.i64.wrap ((i : Int) + 1) = ((i + 1 : Nat) : Int) := by have := H.out.lt; rw [IntWalk.i64_in _ (by omega)]; omega
      clear hx hk hcl HCF
      go_wp2_with fail
      refine HCL.out.mono ?_
      intro e w2 hq
      cases hst : step t x with
      | error q =>
        rw [hst] at hq
        obtain ⟨rfl, hb⟩ := hq
        have he := lp_bad H.out HX.out hst
        obtain ⟨L, HF⟩ := lp_err H.out hb he
        have HF' := Bx.mk HF
        have hq0 : ((q : Int) != 0) = true := by rcases step_err hst with rfl | rfl <;> rfl
        have l0 := L.cell 0; have l1 := L.cell 1; have f0 := L.frozen 0; have f1 := L.frozen 1
        simp at l0 l1
        clear hst hb he L HF HCL hcf c0
        go_wp2_with fail
        exact bodyPost_ret (results_head (by simp [go_sem, l0]) (by simp [go_sem, l1]) _ rfl rfl rfl) rfl HF'.out
      | ok t' =>
        rw [hst] at hq
        obtain ⟨rfl, htk, hb⟩ := hq
        have HST := Bx.mk hst
        have HB2 := Bx.mk hb
        obtain ⟨A1, n1, d1, A2, m2, d2, K⟩ := htk
        have c0' := K.lies.cell 0
        have c1' := K.lies.cell 1
        have c2' := K.lies.cell 2
        simp at c0' c1' c2'
        have HK2 := Bx.mk K
        clear hst hb HCL hcf c0 K
        by_cases ho : t'.st = .over
        · rw [ho] at c0'
          obtain ⟨L, HF⟩ := lp_end H.out HB2.out HK2.out (lp_over H.out HX.out HST.out ho)
          have HF' := Bx.mk HF
          have c0'' : w2.cell? ⟨w.heap.size + 1, 0, none⟩ = some .nilFunc := c0'
          have l0 := L.cell 0; have l1 := L.cell 1; have f0 := L.frozen 0; have f1 := L.frozen 1
          simp at l0 l1
          have hfe := fn_eq w2
          clear HF L ho c0'
          go_wp2_with fail
          exact bodyPost_ret (results_head (by simp [go_sem, l0]) (by simp [go_sem, l1]) _ rfl rfl rfl) rfl HF'.out
        · obtain ⟨k2, hk2⟩ := fnv_fn ho
          rw [hk2] at c0'
          clear hk2
          have hfn := fn_ne k2 w2
          rcases (show i + 1 = 512 ∨ i + 1 ≠ 512 by omega) with h512 | h512
          · obtain ⟨L, HF⟩ := lp_err H.out HB2.out (lp_long H.out HX.out HST.out ho h512)
            have HF' := Bx.mk HF
            have l0 := L.cell 0; have l1 := L.cell 1; have f0 := L.frozen 0; have f1 := L.frozen 1
            simp at l0 l1
            obtain rfl : i = 511 := by omega
            clear HF L ho h512 c1' c2'
            go_wp2_with fail
            exact bodyPost_ret (results_head (by simp [go_sem, l0]) (by simp [go_sem, l1]) _ rfl rfl rfl) rfl HF'.out
          · have HN := Bx.mk (lp_next H.out HX.out HST.out ho h512 HB2.out ⟨_, _, _, _, _, _, HK2.out⟩)
            have h512' : (((i + 1 : Nat) : Int) == 512) = false := by rw [beq_eq_false_iff_ne]; omega
            clear ho h512 c1' c2'
            go_wp2_with fail
            go_roundw
            case rel => exact ⟨i + 1, t', by omega, rfl, HN⟩
            case measure => simp [intOf]; omega
    · obtain rfl : i = n := by omega
      obtain ⟨L, HF⟩ := lp_err H.out (Below.refl _ _) (lp_done H.out (by rw [HB.out]))
      have HF' := Bx.mk HF
      have l0 := L.cell 0; have l1 := L.cell 1; have f0 := L.frozen 0; have f1 := L.frozen 1
      simp at l0 l1
      clear HF L
      go_wp2_with fail
      exact bodyPost_ret (results_head (by simp [go_sem, l0]) (by simp [go_sem, l1]) _ rfl rfl rfl) rfl HF'.out
theorem take_any {w : World} {ok : Nat → Prop} {A : Option Addr} {n c : Nat} {b : Str} (hs : Spell w ok A n c b) (hok : ∀ g, ok g → g < w.heap.size) (hn : n ≤ 100000) : Calls Tryz.prog 19 #[.slice A n c] w (TakeTo (take b) w) := take_any0 hs hok
end Go.Proofs.YtghdaengkgiekaaGreatDoor.hd
