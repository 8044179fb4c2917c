/-
  Given for the seat's laws: the chapter's example, walked. No condition but those of the theorems.
-/
import Derived.Test.YtpidjekabnnmcaaHOf
import Derived.Test.YtpidjekabnnmcaaHTicks
namespace Go.Proofs.Ytpidjekabnnmcaa.hp
open Go.RowKit mem find pb
set_option linter.unusedVariables false

def E0 : HD := HD.new (cfOf 1 2 10 5 none 0)
def E1 : HD := E0.hit 1 (fun x => badR x E0.now E0.cool E0.fails false)
def E2 : HD := E1.hit 1 (fun x => badR x E1.now E1.cool E1.fails false)
def E3 : HD := E2.ticks 9
def E4 : HD := E3.ticks 1
def E5 : HD := E4.hit 1 (fun x => goodR x E4.now true)
def E6 : HD := E5.hit 9 (fun x => goodR x E5.now true)
theorem w_fit (A : Option Addr) (c : Nat) : fitb (cfOf 1 2 10 5 A c) = true := rfl
theorem w_e0 (A : Option Addr) (c : Nat) : HD.new (cfOf 1 2 10 5 A c) = E0 := rfl
theorem w_v : E0.lets 0 = true ∧ E0.keyAt 0 = 1 ∧ E0.ec 1 = 0 ∧ E1.lets 0 = true ∧ E1.ec 1 = 0 ∧ E2.lets 0 = false ∧ (E2.ticksL 9) = [] ∧ E3.lets 0 = false ∧ E3.ticksL 1 = [1] ∧ E4.lets 0 = false ∧ E4.ec 1 = 0 ∧ E5.lets 0 = true ∧ E5.ec 9 = 30 ∧ E6.now = 10 := by decide +kernel
theorem w_l : E0.R.length = 1 ∧ E1.R.length = 1 ∧ E2.R.length = 1 ∧ E3.R.length = 1 ∧ E4.R.length = 1 ∧ E5.R.length = 1 ∧ E6.R.length = 1 := by decide +kernel
theorem w_w : (∀ x ∈ E0.R, x.wi < 65536) ∧ (∀ x ∈ E1.R, x.wi < 65536) ∧ (∀ x ∈ E4.R, x.wi < 65536) ∧ (∀ x ∈ E5.R, x.wi < 65536) := by decide +kernel
theorem w_n : 0 ≤ E2.now ∧ E2.now ≤ latest ∧ 0 ≤ E3.now ∧ E3.now ≤ latest := by decide +kernel

/-- where the example stands -/
structure AW (w0 : World) (r q : Nat) (D : HD) (w : World) : Prop where
  ex : ∃ A c bs, Hx w (fun g => w0.heap.size ≤ g) r D A c q bs
  keep : Below w0.heap.size w0 w
section
variable {w0 w : World} {r q : Nat} {D : HD}
theorem AW.step {S : Nat → Prop} {w' : World} {D' : HD} {A' : Option Addr} {c' : Nat} {bs' : List Nat} (h : AW w0 r q D w) (hx : Hx w' S r D' A' c' q bs') (hS : ∀ g, S g → w0.heap.size ≤ g) (hk : Keep w.heap.size S w w') : AW w0 r q D' w' :=
  ⟨⟨A', c', bs', hx.mono hS⟩, ((Keep.of_below h.keep S).trans (hk.mono h.keep.size (fun _ _ e => e))).below (Nat.le_refl _) (fun g hg hs => by have := hS g hs; omega)⟩
theorem AW.below {w' : World} (h : AW w0 r q D w) (hb : Below w.heap.size w w') : AW w0 r q D w' := by
  obtain ⟨A, c, bs, hx⟩ := h.ex
  exact ⟨⟨A, c, bs, hx.below hb⟩, h.keep.trans (hb.mono h.keep.size)⟩
theorem aw_lets (h : AW w0 r q D w) (hs : D.R.length ≤ 1000) {v : Bool} (i : Int) (hv : D.lets i = v) : Calls Try.prog 15 #[bp r, .int .i64 i] w fun e w' => e = .returned (.bool v) ∧ AW w0 r q D w' := by
  obtain ⟨A, c, bs, hx⟩ := h.ex
  exact (hlets_any hx hs i).mono fun e w' ⟨he, hb⟩ => ⟨by rw [he, hv], h.below hb⟩
theorem aw_key (h : AW w0 r q D w) (hs : D.R.length ≤ 1000) {v : Int} (i : Int) (hv : D.keyAt i = v) : Calls Try.prog 13 #[bp r, .int .i64 i] w fun e w' => e = .returned (.int .i64 v) ∧ AW w0 r q D w' := by
  obtain ⟨A, c, bs, hx⟩ := h.ex
  exact (hkey_any hx hs i).mono fun e w' ⟨he, hb⟩ => ⟨by rw [he, hv], by rw [← hb]; exact h⟩
theorem aw_now (h : AW w0 r q D w) {v : Int} (hv : D.now = v) : Calls Try.prog 12 #[bp r] w fun e w' => e = .returned (.int .i64 v) ∧ AW w0 r q D w' := by
  obtain ⟨A, c, bs, hx⟩ := h.ex
  exact (now_any hx).mono fun e w' ⟨he, hb⟩ => ⟨by rw [he, hv], by rw [← hb]; exact h⟩
theorem aw_bad (h : AW w0 r q D w) (hs : D.R.length ≤ 1000) (hw : ∀ x ∈ D.R, x.wi < 65536) {v : Int} (key : Int) (t : Bool) (hv : D.ec key = v) : Calls Try.prog 17 #[bp r, .int .i64 key, .bool t] w fun e w' => e = .returned (.int .i64 v) ∧ AW w0 r q (D.hit key (fun x => badR x D.now D.cool D.fails t)) w' := by
  obtain ⟨A, c, bs, hx⟩ := h.ex
  exact (hbad_any hx hs hw key t).mono fun e w' ⟨he, h1, h2⟩ => ⟨by rw [he, hv], h.step h1 (fun g e => e) h2⟩
theorem aw_good (h : AW w0 r q D w) (hs : D.R.length ≤ 1000) (hw : ∀ x ∈ D.R, x.wi < 65536) {v : Int} (key : Int) (t : Bool) (hv : D.ec key = v) : Calls Try.prog 16 #[bp r, .int .i64 key, .bool t] w fun e w' => e = .returned (.int .i64 v) ∧ AW w0 r q (D.hit key (fun x => goodR x D.now t)) w' := by
  obtain ⟨A, c, bs, hx⟩ := h.ex
  exact (hgood_any hx hs hw key t).mono fun e w' ⟨he, h1, h2⟩ => ⟨by rw [he, hv], h.step h1 (fun g e => e) h2⟩
theorem aw_back (h : AW w0 r q D w) (hs : D.R.length ≤ 1000) {v : Int} (key : Int) (t : Bool) (hv : D.ec key = v) : Calls Try.prog 18 #[bp r, .int .i64 key, .bool t] w fun e w' => e = .returned (.int .i64 v) ∧ AW w0 r q (D.hit key (fun x => backR x t)) w' := by
  obtain ⟨A, c, bs, hx⟩ := h.ex
  exact (hback_any hx hs key t).mono fun e w' ⟨he, h1, h2⟩ => ⟨by rw [he, hv], h.step h1 (fun g e => e) h2⟩
theorem aw_try (h : AW w0 r q D w) (hs : D.R.length ≤ 1000) (i : Int) : Calls Try.prog 8 #[bp r, .int .i64 i] w fun e w' => e = .returned (D.tryV i) ∧ AW w0 r q (D.tried i) w' := by
  obtain ⟨A, c, bs, hx⟩ := h.ex
  exact (htry_any hx hs i).mono fun e w' ⟨he, h1, h2⟩ => ⟨he, h.step h1 (fun g e => e) h2⟩
theorem aw_tells (h : AW w0 r q D w) (hs : D.R.length ≤ 1000) (i : Int) : Calls Try.prog 9 #[bp r, .int .i64 i] w fun e w' => e = .returned (D.tells i) ∧ AW w0 r q D w' := by
  obtain ⟨A, c, bs, hx⟩ := h.ex
  exact (tells_any hx hs i).mono fun e w' ⟨he, hb⟩ => ⟨he, h.below hb⟩
theorem aw_tick (h : AW w0 r q D w) (hs : D.R.length ≤ 16) (n0 : 0 ≤ D.now) (n1 : D.now ≤ latest) : Calls Try.prog 11 #[bp r] w fun e w' => (∃ A' c', e = .returned (.slice A' D.dues.length c') ∧ pl.RowAt w' (fun g => g < w'.heap.size) A' (pl.I8 D.dues)) ∧ AW w0 r q D.tick w' := by
  obtain ⟨A, c, bs, hx⟩ := h.ex
  refine (tick_any hx.bounded (fun g hg => hg.2) hs n0 n1).mono ?_
  rintro e w' ⟨⟨A', c', he, ho⟩, h1, h2⟩
  exact ⟨⟨A', c', he, (pl.RowAt.of_own ho).weak fun g hg => hg.2.1⟩, h.step h1 (fun g e => e.1) h2⟩
theorem aw_ticks (h : AW w0 r q D w) (hs : D.R.length ≤ 16) (n0 : 0 ≤ D.now) (n1 : D.now ≤ latest) (n : Nat) (hn : n ≤ 1000) : Calls Try.prog 22 #[bp r, .int .i64 (n : Int)] w fun e w' => (∃ A' c', e = .returned (.slice A' (D.ticksL n).length c') ∧ pl.RowAt w' (fun g => g < w'.heap.size) A' (pl.I8 (D.ticksL n))) ∧ AW w0 r q (D.ticks n) w' := by
  obtain ⟨A, c, bs, hx⟩ := h.ex
  refine (ticks_any hx.bounded (fun g hg => hg.2) hs n0 n1 n hn).mono ?_
  rintro e w' ⟨⟨A', c', he, ho⟩, h1, h2⟩
  exact ⟨⟨A', c', he, ho.weak fun g hg => hg.1⟩, h.step h1 (fun g e => e.1) h2⟩
/-- the table that New makes of the law's own configuration -/
theorem aw_new (n : Nat) (f k e : Int) (w : World) (A : Option Addr) (c : Nat) {w1 : World} (hb : Below w.heap.size w w1) (hp : PasAt w1 (fun g => w.heap.size ≤ g ∧ g < w1.heap.size) A (pasOf n)) (hf : fitb (cfOf n f k e A c) = true) :
    Calls Try.prog 20 #[(cfOf n f k e A c).v] w1 fun en w' => ∃ r q, en = .returned (.tuple #[bp r, .int .i64 0]) ∧ AW w r q (HD.new (cfOf n f k e A c)) w' := by
  refine (new_good (cfOf n f k e A c) w1 hf (hp.weak fun g hg => hg.2)).mono ?_
  rintro en w' ⟨⟨r, A', c', q, bs', he, hx⟩, hb'⟩
  exact ⟨r, q, he, ⟨A', c', bs', hx.mono fun g hg => Nat.le_trans hb.size hg⟩, hb.trans (hb'.mono hb.size)⟩
end
end Go.Proofs.Ytpidjekabnnmcaa.hp
