/-
  Given for 'Rows.RingOrderSaid': the walk of RingOrder: it returns true at every input, and turns nothing that was there. No condition.
-/
import Derived.Test.YthagggclhahikaaTwo
import Derived.Test.YthagggclhahikaaActs
import Derived.Maps.AppendAt
namespace Go.Proofs.Ythagggclhahikaa.order
open Go.RowKit mem ring plain put peek same api awake two acts
set_option linter.unusedVariables false

/-- what is known of the acts that came in -/
def ActsOk (w : World) (acts : List ActD) : Prop := ∀ (i : Nat) (x : ActD), acts[i]? = some x →
  (∃ bs, Src w (fun g => g < w.heap.size) x.A x.l x.c bs) ∧ 0 ≤ x.kind ∧ x.kind ≤ 255 ∧ -9223372036854775808 ≤ x.n ∧ x.n ≤ 9223372036854775807

theorem ActsAt.below {w w' : World} {A : Option Addr} {acts : List ActD} (h : ActsAt w A acts) (hlt : ∀ a, A = some a → 0 < acts.length → a.block < w.heap.size) (hb : Below w.heap.size w w') : ActsAt w' A acts := fun hp => by
  obtain ⟨b, off, e, hc⟩ := h hp
  subst e
  have hl := hlt _ rfl hp
  exact ⟨b, off, rfl, fun i x hx => by
    obtain ⟨h1, h2, h3⟩ := hc i x hx
    exact ⟨(hb.cell (p := ⟨b, off + i * 3, none⟩) hl).trans h1, (hb.cell (p := ⟨b, off + i * 3 + 1, none⟩) hl).trans h2, (hb.cell (p := ⟨b, off + i * 3 + 2, none⟩) hl).trans h3⟩⟩

theorem actsAt_lt {w : World} {A : Option Addr} {acts : List ActD} (h : ActsAt w A acts) : ∀ a, A = some a → 0 < acts.length → a.block < w.heap.size := by
  intro a e hp
  obtain ⟨b, off, e', hc⟩ := h hp
  rw [e] at e'
  cases e'
  obtain ⟨x, hx⟩ : ∃ x, acts[0]? = some x := ⟨_, List.getElem?_eq_getElem hp⟩
  have := (hc 0 x hx).1
  rcases Nat.lt_or_ge b w.heap.size with h1 | h1
  · exact h1
  · simp [World.cell?, Array.getElem?_eq_none h1] at this

/-- append, and where the row lies behind it -/
theorem append_at {w : World} {base : Nat} {v : Value} {n : Nat} {xs ys : List Int} {ok : Nat → Prop} {A : Option Addr} {m c : Nat} (hown : w.ownsRow base 5 1 v n (B8 xs)) (hs : Src w ok A m c ys) (h1 : n + m ≤ 1000000) (hb : base ≤ w.heap.size) :
    ∃ A' c' w', (Builtin.append_ #[31, 31] 31 #[v, .slice A m c]).run Try.prog w = .ok (.slice A' (n + m) c') w' ∧ w'.ownsRow base 5 1 (.slice A' (n + m) c') (n + m) (B8 (xs ++ ys)) ∧ w.grownBy w' v.ownBlock ∧
      ∀ g, (Value.slice A' (n + m) c').ownBlock = some g → v.ownBlock = some g ∨ w.heap.size ≤ g := by
  obtain ⟨i0, hinf, hz0, hz1, hz2⟩ := info_parts info5
  cases A with
  | none =>
    have hc := hs.none_ rfl
    have hm : m = 0 := by have := hs.cap; omega
    subst hc hm
    have hy : ys = [] := List.eq_nil_of_length_eq_zero hs.len
    subst hy
    have hr := run_append_owned_none (P := Try.prog) w base 31 31 5 i0 1 Try.underlying31 hinf v n (B8 xs) hown
    obtain ⟨A', c', rfl⟩ := own_form hown
    exact ⟨A', c', w, hr, by simpa using hown, World.grownBy.refl w _, fun g e => .inl e⟩
  | some a =>
    obtain ⟨v', w', hr, ho, hg, _, hat⟩ := run_append_own_at (P := Try.prog) w base 31 31 5 i0 (.int .u8 0) 1 1 Try.underlying31 hinf hz0 hz1 hz2 rfl (by decide) v n (B8 xs) hown a m c (B8 ys) (by rw [B8_length, hs.len]; omega)
      (fun j u hu => by
        obtain ⟨z, hz, rfl⟩ := B8_get hu
        obtain ⟨g, off, e, _, hc⟩ := hs.at_ (by have := (List.getElem?_eq_some_iff.1 hz).1; omega)
        cases e
        have := hc j z hz
        by_cases hj : j = 0
        · subst hj; simpa [Addr.add] using this
        · simpa [Addr.add, hj] using this) (B8_one _) (by unfold maxLen; omega) (by omega) hb
    obtain ⟨A', c', rfl⟩ := own_form ho
    have e : B8 (xs ++ ys) = B8 xs ++ B8 ys := by simp [B8]
    refine ⟨A', c', w', hr, by rw [e]; exact ho, hg, fun g e => ?_⟩
    rcases hat with h | h
    · exact .inl (h ▸ e)
    · right
      rw [h] at e
      cases e
      exact Nat.le_refl _

/-- what holds between two rounds -/
structure OrdInv (w W : World) (b s N : Nat) (v1 v2 : Value) (ins outs xs : List Int) : Prop where
  has : Has W b s N xs
  inn : W.ownsRow w.heap.size 5 1 v1 ins.length (B8 ins)
  out : W.ownsRow w.heap.size 5 1 v2 outs.length (B8 outs)
  eq : ins = outs ++ xs
  lo : w.heap.size ≤ b ∧ w.heap.size ≤ s
  ap1 : ∀ g, v1.ownBlock = some g → g ≠ b ∧ g ≠ s ∧ v2.ownBlock ≠ some g
  ap2 : ∀ g, v2.ownBlock = some g → g ≠ b ∧ g ≠ s
  below : Below w.heap.size w W

theorem own_lt {W : World} {B : Nat} {v : Value} {n : Nat} {xs : List Value} (h : W.ownsRow B 5 1 v n xs) {g : Nat} (e : v.ownBlock = some g) : g < W.heap.size := by
  rcases h.2 with ⟨rfl, _⟩ | ⟨g', cap, cur, rfl, _, hh, _⟩
  · simp [Value.ownBlock] at e
  · have : g' = g := by simpa [Value.ownBlock] using e
    subst this
    exact (Array.getElem?_eq_some_iff.1 hh).1

theorem own_kept {W W' : World} {B C : Nat} {S : Nat → Prop} {v : Value} {n : Nat} {xs : List Value} (h : W.ownsRow B 5 1 v n xs) (hk : Keep C S W W') (hC : W.heap.size ≤ C) (hS : ∀ g, v.ownBlock = some g → ¬ S g) : W'.ownsRow B 5 1 v n xs := by
  refine ⟨h.1, ?_⟩
  rcases h.2 with h0 | ⟨g, cap, cur, hv, hB, hh, rest⟩
  · exact .inl h0
  · have hlt := (Array.getElem?_eq_some_iff.1 hh).1
    exact .inr ⟨g, cap, cur, hv, hB, (hk.block g (by omega) (hS g (by rw [hv]; rfl))).trans hh, rest⟩

section
variable {w W W' W'' : World} {b s N : Nat} {v1 v2 v' : Value} {ins outs xs ys : List Int}

theorem OrdInv.later (h : OrdInv w W b s N v1 v2 ins outs xs) (hb : Below W.heap.size W W') : OrdInv w W' b s N v1 v2 ins outs xs := by
  have hk : Keep W.heap.size (fun _ => False) W W' := Keep.of_below hb _
  exact ⟨h.has.below hb h.has.lt.1 h.has.lt.2, own_kept h.inn hk (Nat.le_refl _) (fun _ _ hf => hf), own_kept h.out hk (Nat.le_refl _) (fun _ _ hf => hf), h.eq, h.lo, h.ap1, h.ap2, h.below.trans (hb.mono h.below.size)⟩

/-- Put, and what it told appended to 'in' -/
theorem OrdInv.put (h : OrdInv w W b s N v1 v2 ins outs xs) (hh : Has W' b s N (xs ++ ys)) (hk : Keep W.heap.size (fun g => g = b ∨ g = s) W W')
    (ho : W''.ownsRow w.heap.size 5 1 v' (ins ++ ys).length (B8 (ins ++ ys))) (hg : W'.grownBy W'' v1.ownBlock) (hn : ∀ g, v'.ownBlock = some g → v1.ownBlock = some g ∨ W'.heap.size ≤ g) : OrdInv w W'' b s N v' v2 (ins ++ ys) outs (xs ++ ys) := by
  have hsz := hk.size
  have hbs := h.has.lt
  have hkg := keep_grown hg
  have o2 : W'.ownsRow w.heap.size 5 1 v2 outs.length (B8 outs) := own_kept h.out hk (Nat.le_refl _) (fun g e hf => by have := h.ap2 g e; omega)
  have hl1 : ∀ g, v1.ownBlock = some g → g < W.heap.size ∧ w.heap.size ≤ g := fun g e => ⟨own_lt h.inn e, own_ge h.inn e⟩
  have hl2 : ∀ g, v2.ownBlock = some g → g < W.heap.size := fun g e => own_lt h.out e
  refine ⟨hh.keep hkg (by omega) (by omega) (fun e => ?_) (fun e => ?_), ho, own_kept o2 hkg (Nat.le_refl _) (fun g e hf => ?_), by rw [h.eq, List.append_assoc], h.lo, fun g e => ?_, h.ap2, ?_⟩
  · have := h.ap1 b e.symm; omega
  · have := h.ap1 s e.symm; omega
  · exact (h.ap1 g hf.symm).2.2 e
  · rcases hn g e with e1 | e1
    · exact h.ap1 g e1
    · refine ⟨by omega, by omega, fun e2 => ?_⟩
      have := hl2 g e2
      omega
  · refine (h.below.trans (hk.below h.below.size (fun k hk hf => by have := h.lo; omega))).trans (hkg.below (by have := h.below.size; omega) (fun k hk hf => ?_))
    have := hl1 k hf.symm
    omega

/-- bytes taken, and appended to 'out' -/
theorem OrdInv.take {k : Nat} (h : OrdInv w W b s N v1 v2 ins outs xs) (hh : Has W' b s N (xs.drop k)) (hk : Keep W.heap.size (fun g => g = b) W W')
    (ho : W''.ownsRow w.heap.size 5 1 v' (outs ++ xs.take k).length (B8 (outs ++ xs.take k))) (hg : W'.grownBy W'' v2.ownBlock) (hn : ∀ g, v'.ownBlock = some g → v2.ownBlock = some g ∨ W'.heap.size ≤ g) : OrdInv w W'' b s N v1 v' ins (outs ++ xs.take k) (xs.drop k) := by
  have hsz := hk.size
  have hbs := h.has.lt
  have hkg := keep_grown hg
  have o1 : W'.ownsRow w.heap.size 5 1 v1 ins.length (B8 ins) := own_kept h.inn hk (Nat.le_refl _) (fun g e hf => by have := h.ap1 g e; omega)
  have hl1 : ∀ g, v1.ownBlock = some g → g < W.heap.size := fun g e => own_lt h.inn e
  have hl2 : ∀ g, v2.ownBlock = some g → g < W.heap.size ∧ w.heap.size ≤ g := fun g e => ⟨own_lt h.out e, own_ge h.out e⟩
  refine ⟨hh.keep hkg (by omega) (by omega) (fun e => ?_) (fun e => ?_), own_kept o1 hkg (Nat.le_refl _) (fun g e hf => ?_), ho, by rw [h.eq, List.append_assoc, List.take_append_drop], h.lo, fun g e => ?_, fun g e => ?_, ?_⟩
  · have := h.ap2 b e.symm; omega
  · have := h.ap2 s e.symm; omega
  · exact (h.ap1 g e).2.2 hf.symm
  · refine ⟨(h.ap1 g e).1, (h.ap1 g e).2.1, fun e2 => ?_⟩
    rcases hn g e2 with e3 | e3
    · exact (h.ap1 g e).2.2 e3
    · have := hl1 g e
      omega
  · rcases hn g e with e1 | e1
    · exact h.ap2 g e1
    · omega
  · refine (h.below.trans (hk.below h.below.size (fun k hk hf => by have := h.lo; omega))).trans (hkg.below (by have := h.below.size; omega) (fun k hk hf => ?_))
    have := hl2 k hf.symm
    omega
end

set_option maxRecDepth 100000 in
set_option maxHeartbeats 4000000 in
theorem order_in (N : Nat) (A : Option Addr) (c : Nat) (acts : List ActD) (w : World) (hN : 1 ≤ N) (hN3 : N ≤ 300) (hg : greatB acts = false) (hm : acts.length ≤ maxLen) (hat : ActsAt w A acts) (hok : ActsOk w acts) :
    Calls Try.prog 5 #[.int .i64 (N : Int), .slice A acts.length c] w fun e w' => e = .returned (.bool true) ∧ Below w.heap.size w w' := by
  have hlen := greatB_len hg
  have HG := Lib.hid hg
  have HA := Lib.hid (awake_any w)
  have HM := Lib.hid hm
  have HOK := Lib.hid hok
  have HAT := Lib.hid hat
  have hb1 : ¬ (N : Int) < 1 := by omega
  have hb2 : ¬ (300 : Int) < (N : Int) := by omega
  clear hg hm hok hat
  go_enter Try.func5, Try.ntmps5
  go_wp2_with fail
  refine HA.out.mono ?_
  rintro e w1 ⟨rfl, hb⟩
  have hat1 := ActsAt.below HAT.out (actsAt_lt HAT.out) hb
  have HGR := Lib.hid (great_any A c acts w1 HM.out hat1)
  have HB := Lib.hid hb
  clear hb hat1
  go_wp2_with fail
  refine HGR.out.mono ?_
  rintro e w' ⟨rfl, rfl⟩
  rw [HG.out]
  have HN := Lib.hid (new_has N w1 hN (by omega))
  go_wp2_with fail
  refine HN.out.mono ?_
  rintro e w2 ⟨b, s, rfl, hh2, hb2', hs2, hbel2⟩
  have hinv : OrdInv w w2 b s N (.slice none 0 0) (.slice none 0 0) [] [] [] := by
    have := HB.out.size
    exact ⟨hh2, own_none _ _ _, own_none _ _ _, rfl, ⟨by omega, by omega⟩, fun g e => by simp [Value.ownBlock] at e, fun g e => by simp [Value.ownBlock] at e, HB.out.trans (hbel2.mono (by omega))⟩
  have HINV := Lib.hid hinv
  clear hinv hh2 hbel2 hb2' hs2 HN HGR HA
  generalize hlv : acts.length = len at *
  have HLV := Lib.hid hlv
  clear hlv
  go_wp2_with fail
  go_loopw [7, 8, 9] (fun v1 v2 i wr => ∃ (k : Nat) (A1 A2 : Option Addr) (c1 c2 : Nat) (ins outs xs : List Int), k ≤ len ∧ i = .int .i64 k ∧ v1 = .slice A1 ins.length c1 ∧ v2 = .slice A2 outs.length c2 ∧ ins.length ≤ 300 * k ∧ Hid (OrdInv w wr b s N v1 v2 ins outs xs)) (fun _ _ i _ => len - (intOf i).toNat)
  case atStart => exact ⟨0, none, none, 0, 0, [], [], [], Nat.zero_le _, rfl, rfl, rfl, by simp, HINV.out⟩
  case round =>
    clear HINV
    obtain ⟨k, A1, A2, c1, c2, ins, outs, xs, hk, rfl, rfl, rfl, hil, hinv⟩ := hrel
    by_cases hlt : k < len
    · obtain ⟨x, hx⟩ : ∃ x, acts[k]? = some x := ⟨_, List.getElem?_eq_getElem (by rw [HLV.out]; exact hlt)⟩
      have hatr := ActsAt.below HAT.out (actsAt_lt HAT.out) hinv.out.below
      obtain ⟨ba, off, rfl, hcs⟩ := hatr (by rw [HLV.out]; omega)
      obtain ⟨d0, d1, d2⟩ := hcs k x hx
      obtain ⟨⟨bs, hsrc⟩, hk0, hk1, hn0, hn1⟩ := HOK.out k x hx
      have hxl := greatB_each HG.out hx
      have HX := Lib.hid hx
      have HSRC := Lib.hid hsrc
      clear hx hatr hcs hsrc
      obtain ⟨kd, xn, XA, xl, xc⟩ := x
      dsimp only at d0 d1 d2 hk0 hk1 hn0 hn1 hxl HSRC
      have hI1 := hinv.out.later ((Below.refl _ wr).alloc (Nat.le_refl _) (.cells #[.int .u8 kd, .int .i64 xn, .slice XA xl xc] 33))
      have hbx := Lies.new wr 33 #[.int .u8 kd, .int .i64 xn, .slice XA xl xc]
      have hsz : (wr.alloc (.cells #[.int .u8 kd, .int .i64 xn, .slice XA xl xc] 33)).heap.size = wr.heap.size + 1 := by simp
      have hbl := hinv.out.has.lt
      have hlo := hinv.out.lo
      have hws := hinv.out.below.size
      have hfit := hinv.out.has.fits
      have hol : outs.length + xs.length = ins.length := by rw [hinv.out.eq, List.length_append]
      have HI1 := Lib.hid hI1
      have HBX := Lib.hid hbx
      have HSZ := Lib.hid hsz
      have HOL := Lib.hid hol
      clear hI1 hbx hsz hol hinv
      have hcase : kd % 4 = 0 ∨ kd % 4 = 1 ∨ kd % 4 = 2 ∨ kd % 4 = 3 := by omega
      rcases hcase with hq | hq | hq | hq
      · -- Put
        go_wp2_with fail
        have hp := put_has _ HI1.out.has ((HSRC.out.keep (w' := wr.alloc (.cells #[.int .u8 kd, .int .i64 xn, .slice XA xl xc] 33)) (fun g hg => HI1.out.below.block g hg)).weak (ok' := fun g => g < (wr.alloc (.cells #[.int .u8 kd, .int .i64 xn, .slice XA xl xc] 33)).heap.size ∧ g ≠ s) (fun g hg => ⟨by rw [HSZ.out]; omega, by omega⟩))
        obtain ⟨n, hn⟩ : ∃ n, n = min xl (N - xs.length) := ⟨_, rfl⟩
        rw [← hn] at hp
        have hnx : n ≤ xl := by omega
        clear hn
        refine hp.mono ?_
        rintro e w3 ⟨rfl, hh3, hk3⟩
        have hbx3 : Lies w3 wr.heap.size 33 #[.int .u8 kd, .int .i64 xn, .slice XA xl xc] := HBX.out.keep hk3 (by rw [HSZ.out]; omega) (fun e => by omega)
        have f2 : w3.cell? ⟨wr.heap.size, 2, none⟩ = some (.slice XA xl xc) := hbx3.cell 2
        have q1 := slice_to XA xl xc n (by have := HSRC.out.cap; omega)
        have z3 := hk3.size
        rw [HSZ.out] at z3
        have src3 := (src_to HSRC.out hnx).keep (w' := w3) (fun g hg => (hk3.block g (by rw [HSZ.out]; omega) (fun e => by omega)).trans (HI1.out.below.block g hg))
        have o3 := own_kept HI1.out.inn hk3 (Nat.le_refl _) (fun g e hf => by have := HI1.out.ap1 g e; omega)
        obtain ⟨A5, c5, w5, happ, ho5, hg5, hn5⟩ := append_at o3 src3 (by omega) (by omega)
        have hlen5 : (ins ++ bs.take n).length = ins.length + n := by rw [List.length_append, List.length_take, HSRC.out.len]; omega
        have hI5 := HI1.out.put hh3 hk3 (by rw [hlen5]; exact ho5) hg5 hn5
        have HI5 := Lib.hid hI5
        have HAPP := Lib.hid happ
        have HL5 := Lib.hid hlen5
        clear hI5 happ hlen5 src3 o3 z3 hh3 hk3 ho5 hg5 hn5 hbx3 hp
        go_wp2_with (at_builtin; refine wpList_append_eq rfl _ _ rfl rfl rfl rfl HAPP.out ?_)
        go_roundw
        case rel => exact ⟨k + 1, A5, A2, c5, c2, ins ++ bs.take n, outs, xs ++ bs.take n, by omega, by go_num, by rw [HL5.out], rfl, by rw [HL5.out]; omega, HI5.out⟩
        case measure => simp [intOf]; omega
      · -- Put
        go_wp2_with fail
        have hp := put_has _ HI1.out.has ((HSRC.out.keep (w' := wr.alloc (.cells #[.int .u8 kd, .int .i64 xn, .slice XA xl xc] 33)) (fun g hg => HI1.out.below.block g hg)).weak (ok' := fun g => g < (wr.alloc (.cells #[.int .u8 kd, .int .i64 xn, .slice XA xl xc] 33)).heap.size ∧ g ≠ s) (fun g hg => ⟨by rw [HSZ.out]; omega, by omega⟩))
        obtain ⟨n, hn⟩ : ∃ n, n = min xl (N - xs.length) := ⟨_, rfl⟩
        rw [← hn] at hp
        have hnx : n ≤ xl := by omega
        clear hn
        refine hp.mono ?_
        rintro e w3 ⟨rfl, hh3, hk3⟩
        have hbx3 : Lies w3 wr.heap.size 33 #[.int .u8 kd, .int .i64 xn, .slice XA xl xc] := HBX.out.keep hk3 (by rw [HSZ.out]; omega) (fun e => by omega)
        have f2 : w3.cell? ⟨wr.heap.size, 2, none⟩ = some (.slice XA xl xc) := hbx3.cell 2
        have q1 := slice_to XA xl xc n (by have := HSRC.out.cap; omega)
        have z3 := hk3.size
        rw [HSZ.out] at z3
        have src3 := (src_to HSRC.out hnx).keep (w' := w3) (fun g hg => (hk3.block g (by rw [HSZ.out]; omega) (fun e => by omega)).trans (HI1.out.below.block g hg))
        have o3 := own_kept HI1.out.inn hk3 (Nat.le_refl _) (fun g e hf => by have := HI1.out.ap1 g e; omega)
        obtain ⟨A5, c5, w5, happ, ho5, hg5, hn5⟩ := append_at o3 src3 (by omega) (by omega)
        have hlen5 : (ins ++ bs.take n).length = ins.length + n := by rw [List.length_append, List.length_take, HSRC.out.len]; omega
        have hI5 := HI1.out.put hh3 hk3 (by rw [hlen5]; exact ho5) hg5 hn5
        have HI5 := Lib.hid hI5
        have HAPP := Lib.hid happ
        have HL5 := Lib.hid hlen5
        clear hI5 happ hlen5 src3 o3 z3 hh3 hk3 ho5 hg5 hn5 hbx3 hp
        go_wp2_with (at_builtin; refine wpList_append_eq rfl _ _ rfl rfl rfl rfl HAPP.out ?_)
        go_roundw
        case rel => exact ⟨k + 1, A5, A2, c5, c2, ins ++ bs.take n, outs, xs ++ bs.take n, by omega, by go_num, by rw [HL5.out], rfl, by rw [HL5.out]; omega, HI5.out⟩
        case measure => simp [intOf]; omega
      · -- Take
        go_wp2_with fail
        have hkle := kOf_le xs.length xn
        have ht := take_has _ HI1.out.has xn
        generalize kOf xs.length xn = m at *
        refine ht.mono ?_
        rintro e w3 ⟨A3, c3, rfl, ho3, hh3, hk3⟩
        have z3 := hk3.size
        rw [HSZ.out] at z3
        have o3 := own_kept HI1.out.out hk3 (Nat.le_refl _) (fun g e hf => (HI1.out.ap2 g e).1 hf)
        have HOLo := HOL.out
        obtain ⟨A5, c5, w5, happ, ho5, hg5, hn5⟩ := append_at o3 (Src.of_own ho3) (by omega) (by omega)
        have hlen5 : (outs ++ xs.take m).length = outs.length + m := by rw [List.length_append, List.length_take]; omega
        have hI5 := HI1.out.take hh3 hk3 (by rw [hlen5]; exact ho5) hg5 hn5
        have HI5 := Lib.hid hI5
        have HAPP := Lib.hid happ
        have HL5 := Lib.hid hlen5
        clear hI5 happ hlen5 o3 z3 hh3 hk3 ho5 hg5 hn5 ho3 ht HOLo
        go_wp2_with (at_builtin; refine wpList_append_eq rfl _ _ rfl rfl rfl rfl HAPP.out ?_)
        go_roundw
        case rel => exact ⟨k + 1, A1, A5, c1, c5, ins, outs ++ xs.take m, xs.drop m, by omega, by go_num, rfl, by rw [HL5.out], by omega, HI5.out⟩
        case measure => simp [intOf]; omega
      · -- Peek, and Skip
        go_wp2_with fail
        by_cases hsk : xn < 0 ∨ (xs.length : Int) < xn
        · have HP := Lib.hid (peek_has _ HI1.out.has xn)
          refine HP.out.mono ?_
          rintro e w3 ⟨A3, c3, rfl, ho3, hb3⟩
          have hI3 := HI1.out.later hb3
          have hbx3 : Lies w3 wr.heap.size 33 #[.int .u8 kd, .int .i64 xn, .slice XA xl xc] := HBX.out.below hb3 (by rw [HSZ.out]; omega)
          have f1 : w3.cell? ⟨wr.heap.size, 1, none⟩ = some (.int .i64 xn) := hbx3.cell 1
          have HSK := Lib.hid (skip_no _ hI3.has xn hsk)
          have HI3 := Lib.hid hI3
          clear hI3 ho3 hb3 hbx3 hsk HP
          generalize kOf xs.length xn = kk at *
          go_wp2_with fail
          refine HSK.out.mono ?_
          rintro e w' ⟨rfl, rfl⟩
          go_wp2_with fail
          go_roundw
          case rel => exact ⟨k + 1, A1, A2, c1, c2, ins, outs, xs, by omega, by go_num, rfl, rfl, by omega, HI3.out⟩
          case measure => simp [intOf]; omega
        · obtain ⟨m, rfl⟩ : ∃ m : Nat, xn = (m : Int) := ⟨xn.toNat, by omega⟩
          have hm : m ≤ xs.length := by omega
          have hkm : kOf xs.length (m : Int) = m := by rw [kOf_nat]; omega
          have hpk := peek_has _ HI1.out.has (m : Int)
          rw [hkm] at hpk
          have HP := Lib.hid hpk
          clear hpk hkm hsk
          refine HP.out.mono ?_
          rintro e w3 ⟨A3, c3, rfl, ho3, hb3⟩
          have hI3 := HI1.out.later hb3
          have hz3 := hb3.size
          rw [HSZ.out] at hz3
          have hbx3 : Lies w3 wr.heap.size 33 #[.int .u8 kd, .int .i64 (m : Int), .slice XA xl xc] := HBX.out.below hb3 (by rw [HSZ.out]; omega)
          have f1 : w3.cell? ⟨wr.heap.size, 1, none⟩ = some (.int .i64 (m : Int)) := hbx3.cell 1
          have HS3 := Lib.hid (Src.of_own ho3)
          have HSK := Lib.hid (skip_yes _ hI3.has m hm)
          have HI3 := Lib.hid hI3
          clear hI3 ho3 hb3 hbx3 HP
          go_wp2_with fail
          refine HSK.out.mono ?_
          rintro e w4 ⟨rfl, hh4, hk4⟩
          have hbb := HI3.out.has.lt
          have src4 := src_later HS3.out hk4 (Nat.le_refl _) (fun g h1 h2 e => by rw [HSZ.out] at h1; omega)
          have o4 := own_kept HI3.out.out hk4 (Nat.le_refl _) (fun g e hf => (HI3.out.ap2 g e).1 hf)
          have z4 := hk4.size
          have HOLo := HOL.out
          obtain ⟨A5, c5, w5, happ, ho5, hg5, hn5⟩ := append_at o4 src4 (by omega) (by omega)
          have hlen5 : (outs ++ xs.take m).length = outs.length + m := by rw [List.length_append, List.length_take]; omega
          have hI5 := HI3.out.take hh4 hk4 (by rw [hlen5]; exact ho5) hg5 hn5
          have HI5 := Lib.hid hI5
          have HAPP := Lib.hid happ
          have HL5 := Lib.hid hlen5
          clear hI5 happ hlen5 src4 o4 z4 hh4 hk4 ho5 hg5 hn5 HOLo HS3 HI3 HSK
          go_wp2_with (at_builtin; refine wpList_append_eq rfl _ _ rfl rfl rfl rfl HAPP.out ?_)
          go_roundw
          case rel => exact ⟨k + 1, A1, A5, c1, c5, ins, outs ++ xs.take m, xs.drop m, by omega, by go_num, rfl, by rw [HL5.out], by omega, HI5.out⟩
          case measure => simp [intOf]; omega
    · obtain rfl : k = len := by omega
      have hk9 : kOf xs.length (N : Int) = xs.length := by rw [kOf_nat]; have := hinv.out.has.fits; omega
      have hol : outs.length + xs.length = ins.length := by rw [hinv.out.eq, List.length_append]
      have hp := peek_has _ hinv.out.has (N : Int)
      rw [hk9] at hp
      have HP := Lib.hid hp
      have HOL := Lib.hid hol
      clear hk9 hp hol
      go_wp2_with fail
      refine HP.out.mono ?_
      rintro e w3 ⟨A3, c3, rfl, ho3, hb3⟩
      have hI3 := hinv.out.later hb3
      have hHOL := HOL.out
      obtain ⟨A5, c5, w5, happ, ho5, hg5, hn5⟩ := append_at hI3.out (Src.of_own ho3) (by omega) hI3.below.size
      have kg := keep_grown hg5
      have o5 := own_kept hI3.inn kg (Nat.le_refl _) (fun g e hf => (hI3.ap1 g e).2.2 hf.symm)
      have e5 : outs ++ xs.take xs.length = ins := by rw [List.take_length, hI3.eq]
      rw [e5] at ho5
      have hsm := same_has w5 (Src.of_own ho5) (Src.of_own o5)
      rw [sameB_refl] at hsm
      have b5 : Below w.heap.size w w5 := hI3.below.trans (kg.below hI3.below.size (fun k hk hf => by have := own_ge hI3.out hf.symm; omega))
      have HSM := Lib.hid hsm
      have HB5 := Lib.hid b5
      have HAPP := Lib.hid happ
      clear hsm b5 happ hI3 ho3 hb3 ho5 hg5 hn5 kg o5 e5 hHOL
      go_wp2_with (at_builtin; refine wpList_append_eq rfl _ _ rfl rfl rfl rfl HAPP.out ?_)
      refine HSM.out.mono ?_
      rintro e w6 ⟨rfl, hst⟩
      have HB6 := Lib.hid (HB5.out.trans (hst.below _))
      clear hst
      go_wp2_with fail
      go_ret
      exact ⟨rfl, HB6.out⟩

set_option maxHeartbeats 1000000 in
theorem order_out (size : Int) (A : Option Addr) (c : Nat) (acts : List ActD) (w : World) (hm : acts.length ≤ maxLen) (hat : ActsAt w A acts) (h : size < 1 ∨ 300 < size ∨ greatB acts = true) :
    Calls Try.prog 5 #[.int .i64 size, .slice A acts.length c] w fun e w' => e = .returned (.bool true) ∧ Below w.heap.size w w' := by
  have HA := Lib.hid (awake_any w)
  have HM := Lib.hid hm
  have HAT := Lib.hid hat
  clear hm hat
  go_enter Try.func5, Try.ntmps5
  go_wp2_with fail
  refine HA.out.mono ?_
  rintro e w1 ⟨rfl, hb⟩
  have hat1 := ActsAt.below HAT.out (actsAt_lt HAT.out) hb
  have HGR := Lib.hid (great_any A c acts w1 HM.out hat1)
  have HB := Lib.hid hb
  clear hb hat1
  by_cases h1 : size < 1
  · go_wp2_with fail
    go_ret
    exact ⟨rfl, HB.out⟩
  · by_cases h2 : 300 < size
    · go_wp2_with fail
      go_ret
      exact ⟨rfl, HB.out⟩
    · have HG := Lib.hid (show greatB acts = true by rcases h with h | h | h; omega; omega; exact h)
      clear h
      go_wp2_with fail
      refine HGR.out.mono ?_
      rintro e w' ⟨rfl, rfl⟩
      rw [HG.out]
      go_wp2_with fail
      go_ret
      exact ⟨rfl, HB.out⟩

end Go.Proofs.Ythagggclhahikaa.order
