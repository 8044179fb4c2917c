/-
  Given for 'Rows.HealthOwnSaid': the law's walk. No condition but those of the theorems.
-/
import Derived.Test.YtpidjekabnnmcaaHOwn0
import Derived.Test.YtpidjekabnnmcaaQIn
namespace Go.Proofs.Ytpidjekabnnmcaa.hp
open Go.RowKit mem find pb
set_option linter.unusedVariables false

/-- where the law stands -/
structure OW (w0 : World) (n r q : Nat) (w : World) : Prop where
  ex : ∃ D, Oth n D ∧ AW w0 r q D w
theorem OW.below {w0 w w' : World} {n r q : Nat} (h : OW w0 n r q w) (hb : Below w.heap.size w w') : OW w0 n r q w' := by
  obtain ⟨D, h1, h2⟩ := h.ex
  exact ⟨D, h1, h2.below hb⟩
theorem OW.keep {w0 w : World} {n r q : Nat} (h : OW w0 n r q w) : Below w0.heap.size w0 w := by
  obtain ⟨D, h1, h2⟩ := h.ex
  exact h2.keep
theorem ow_good {w0 w : World} {n r q : Nat} (h : OW w0 n r q w) (hn : 1 ≤ n) (h16 : n ≤ 16) (t : Bool) : Calls Try.prog 16 #[bp r, .int .i64 1, .bool t] w fun e w' => ∃ v, e = .returned (.int .i64 v) ∧ OW w0 n r q w' := by
  obtain ⟨D, h1, h2⟩ := h.ex
  exact (aw_good h2 (by rw [h1.len]; omega) h1.wi 1 t rfl).mono fun e w' ⟨he, h3⟩ => ⟨_, he, ⟨_, h1.hit1 hn _ (fun x => goodR_key x _ _) (fun x hx => goodR_wi _ _ hx), h3⟩⟩
theorem ow_bad {w0 w : World} {n r q : Nat} (h : OW w0 n r q w) (hn : 1 ≤ n) (h16 : n ≤ 16) (t : Bool) : Calls Try.prog 17 #[bp r, .int .i64 1, .bool t] w fun e w' => ∃ v, e = .returned (.int .i64 v) ∧ OW w0 n r q w' := by
  obtain ⟨D, h1, h2⟩ := h.ex
  exact (aw_bad h2 (by rw [h1.len]; omega) h1.wi 1 t rfl).mono fun e w' ⟨he, h3⟩ => ⟨_, he, ⟨_, h1.hit1 hn _ (fun x => badR_key x _ _ _ _) (fun x hx => badR_wi _ _ _ _ hx), h3⟩⟩
theorem ow_tick {w0 w : World} {n r q : Nat} (h : OW w0 n r q w) (hn : 1 ≤ n) (h16 : n ≤ 16) : Calls Try.prog 11 #[bp r] w fun e w' => ∃ v, e = .returned v ∧ OW w0 n r q w' := by
  obtain ⟨D, h1, h2⟩ := h.ex
  refine (aw_tick h2 (by rw [h1.len]; omega) h1.n0 h1.n1).mono ?_
  rintro e w' ⟨⟨A', c', he, _⟩, h3⟩
  exact ⟨_, he, ⟨_, h1.tick hn, h3⟩⟩
theorem ow_tells {w0 w : World} {n r q : Nat} (h : OW w0 n r q w) (h16 : n ≤ 16) {k : Nat} (hk1 : 1 ≤ k) (hk : k < n) : Calls Try.prog 9 #[bp r, .int .i64 (k : Int)] w fun e w' => e = .returned (.tuple #[.int .u16 0, .agg #[.bool false, .int .i64 0, .int .i64 0, .bool false]]) ∧ OW w0 n r q w' := by
  obtain ⟨D, h1, h2⟩ := h.ex
  refine (aw_tells h2 (by rw [h1.len]; omega) (k : Int)).mono ?_
  rintro e w' ⟨he, h3⟩
  have hx : D.R[k]? = some (D.R[k]'(by rw [h1.len]; exact hk)) := List.getElem?_eq_getElem _
  obtain ⟨o1, o2⟩ := h1.oth k _ hk1 hx
  refine ⟨?_, ⟨D, h1, h3⟩⟩
  rw [he]
  unfold HD.tells
  rw [rec_at, hx]
  simp only [o1, o2]
  rfl
theorem ow_lets {w0 w : World} {n r q : Nat} (h : OW w0 n r q w) (h16 : n ≤ 16) {k : Nat} (hk1 : 1 ≤ k) (hk : k < n) : Calls Try.prog 15 #[bp r, .int .i64 (k : Int)] w fun e w' => e = .returned (.bool true) ∧ OW w0 n r q w' := by
  obtain ⟨D, h1, h2⟩ := h.ex
  have hx : D.R[k]? = some (D.R[k]'(by rw [h1.len]; exact hk)) := List.getElem?_eq_getElem _
  obtain ⟨o1, o2⟩ := h1.oth k _ hk1 hx
  refine (aw_lets h2 (by rw [h1.len]; omega) (k : Int) (v := true) ?_).mono fun e w' ⟨he, h3⟩ => ⟨he, ⟨D, h1, h3⟩⟩
  unfold HD.lets
  rw [rec_at, hx]
  simp only [o2]
  unfold bk.lets
  rw [bk.st_cl rfl]
  rfl
/-- behind the loops: the table, and what Tells told, in a block of its own -/
structure OZ (w0 w1 wr : World) (r q : Nat) (D : HD) (A : Option Addr) (c : Nat) (bs : List Nat) (B : Nat) (cs : Array Value) (W : World) : Prop where
  hx : Hx W (fun g => w1.heap.size ≤ g ∧ g < wr.heap.size) r D A c q bs
  lies : Lies W B 43 cs
  hB : wr.heap.size ≤ B
  lo : w0.heap.size ≤ w1.heap.size
  below : Below w0.heap.size w0 W
section
variable {w0 w1 wr W : World} {r q : Nat} {D : HD} {A : Option Addr} {c : Nat} {bs : List Nat} {B : Nat} {cs : Array Value}
theorem OZ.grow {W' : World} (h : OZ w0 w1 wr r q D A c bs B cs W) (hb : Below W.heap.size W W') : OZ w0 w1 wr r q D A c bs B cs W' :=
  ⟨h.hx.below hb, h.lies.below hb h.lies.lt, h.hB, h.lo, h.below.trans (hb.mono h.below.size)⟩
theorem OZ.step {v : Value} {e : Ending} {W' : World} (h : OZ w0 w1 wr r q D A c bs B cs W) (hw : Wr (fun g => w1.heap.size ≤ g ∧ g < wr.heap.size) r D A c q bs v W e W') : OZ w0 w1 wr r q D A c bs B cs W' := by
  refine ⟨hw.hx, h.lies.keep hw.keep h.lies.lt (fun hs => by have := h.hB; omega), h.hB, h.lo, h.below.trans ?_⟩
  exact hw.keep.below h.below.size (fun k hk hs => by have := h.lo; omega)
end
set_option maxRecDepth 100000 in
set_option maxHeartbeats 16000000 in
theorem own_yes (n : Nat) (gone : Int) (A : Option Addr) (c : Nat) (l : List Bool) (w : World) (hr : pl.RowAt w (fun g => g < w.heap.size) A (pl.BV l)) (h2 : 2 ≤ n) (h16 : n ≤ 16) (h60 : l.length ≤ 60) :
    Calls Try.prog 5 #[.int .i64 (n : Int), .slice A l.length c, .int .i64 gone] w fun e w' => e = .returned (.bool true) ∧ Below w.heap.size w w' := by
  have HA := bk.Bx.mk (awake_any w)
  have HR := bk.Bx.mk hr
  have HO := bk.Bx.mk (fun W => of_any n 2 5 3 W h16)
  have HN := bk.Bx.mk (fun (W W1 : World) (A' : Option Addr) (c' : Nat) (hb : Below W.heap.size W W1) (hp : PasAt W1 (fun g => W.heap.size ≤ g ∧ g < W1.heap.size) A' (pasOf n)) => aw_new n 2 5 3 W A' c' hb hp (by
    rw [fitb_t]
    refine ⟨by show (pasOf n).length ≤ 16; rw [pasOf_len]; exact h16, ?_⟩
    show (1 : Int) ≤ 2 ∧ (2 : Int) ≤ 8 ∧ (1 : Int) ≤ 5 ∧ (5 : Int) ≤ 1000 ∧ (1 : Int) ≤ 3 ∧ (3 : Int) ≤ 1000
    omega))
  have HST := bk.Bx.mk (fun (A' : Option Addr) (c' : Nat) => Oth.start (n := n) 2 5 3 A' c')
  have h1 : 1 ≤ n := by omega
  clear hr
  obtain ⟨m, hm⟩ : ∃ m, l.length = m := ⟨_, rfl⟩
  have HM := bk.Bx.mk hm
  rw [hm] at h60 ⊢
  clear hm
  go_enter Try.func5, Try.ntmps5
  go_wp2_with fail
  refine HA.out.mono ?_
  rintro e w1 ⟨rfl, hb1⟩
  have HB1 := bk.Bx.mk hb1
  clear hb1 HA
  go_wp2_with fail
  refine (HO.out w1).mono ?_
  rintro e w2 ⟨⟨A', c', rfl, hp⟩, hb2⟩
  have KN := bk.Bx.mk (HN.out w1 w2 A' c' hb2 hp)
  have HS2 := bk.Bx.mk (HST.out A' c')
  clear hp hb2 HO HN HST
  generalize (cfOf n 2 5 3 A' c').v = cv at *
  generalize HD.new (cfOf n 2 5 3 A' c') = D0 at *
  go_wp2_with fail
  refine KN.out.mono ?_
  rintro e w3 ⟨r, q, rfl, h3⟩
  have H3 : bk.Bx (OW w1 n r q w3) := ⟨⟨D0, HS2.out, h3⟩⟩
  clear h3 KN HS2
  go_wp2_with fail
  go_loopw [9] (fun s9 wr => ∃ j : Nat, j ≤ m ∧ s9 = .int .i64 j ∧ bk.Bx (OW w1 n r q wr)) (fun s9 _ => m - (intOf s9).toNat)
  case atStart => exact ⟨0, by omega, rfl, H3⟩
  case round =>
    obtain ⟨j, hj, rfl, ho⟩ := hrel
    by_cases hjm : j < m
    · obtain ⟨x, hx⟩ : ∃ x, l[j]? = some x := ⟨_, List.getElem?_eq_getElem (by rw [HM.out]; exact hjm)⟩
      have hbw : Below w.heap.size w wr := HB1.out.trans (ho.out.keep.mono HB1.out.size)
      obtain ⟨g, off, hA, hg, hc⟩ := (HR.out.below hbw (fun g hg => hg)).cell (pl.BV_get hx)
      subst hA
      clear hx hbw
      have cj := hc
      obtain ⟨z3, hz3⟩ : ∃ z, (j : Int) % 3 = z := ⟨_, rfl⟩
      obtain ⟨t3, ht3⟩ : ∃ t, (z3 == 0) = t := ⟨_, rfl⟩
      obtain ⟨z4, hz4⟩ : ∃ z, (j : Int) % 4 = z := ⟨_, rfl⟩
      cases h43 : (z4 == 3) with
      | true =>
        cases x with
        | true =>
          have KG := bk.Bx.mk (fun t => ow_good ho.out h1 h16 t)
          go_wp2_with fail
          refine (KG.out _).mono ?_
          rintro e w5 ⟨v, rfl, h5⟩
          have KT := bk.Bx.mk (ow_tick h5 h1 h16)
          clear h5 KG hc
          go_wp2_with fail
          refine KT.out.mono ?_
          rintro e w6 ⟨v6, rfl, h6⟩
          have HI := bk.Bx.mk h6
          clear h6 KT
          go_wp2_with fail
          try clear h43
          clear hz3 hz4 ht3
          go_loopw [10] (fun s10 wr2 => ∃ k : Nat, 1 ≤ k ∧ k ≤ n ∧ s10 = .int .i64 k ∧ bk.Bx (OW w1 n r q wr2)) (fun s10 _ => n - (intOf s10).toNat)
          case atStart => exact ⟨1, by omega, by omega, rfl, HI⟩
          case round =>
            obtain ⟨k, hk1, hk, rfl, ho2⟩ := hrel
            by_cases hkn : k < n
            · have KE := bk.Bx.mk (ow_tells ho2.out h16 hk1 hkn)
              go_wp2_with fail
              refine KE.out.mono ?_
              rintro e wt ⟨rfl, ht⟩
              have hbz : Below wt.heap.size wt (wt.alloc (.cells #[.bool false, .int .i64 0, .int .i64 0, .bool false] 43)) := (Below.refl _ wt).alloc (Nat.le_refl _) _
              have KL := bk.Bx.mk (ow_lets (ht.below hbz) h16 hk1 hkn)
              clear ht hbz KE ho2
              go_wp2_with fail
              refine KL.out.mono ?_
              rintro e wu ⟨rfl, hu⟩
              have HU := bk.Bx.mk hu
              clear hu KL
              go_wp2_with fail
              go_roundw
              case rel => exact ⟨k + 1, by omega, by omega, by first | rfl | simp, HU⟩
              case measure => simp [intOf]; omega
            · obtain rfl : k = n := by omega
              go_wp2_with fail
              go_roundw
              case rel => exact ⟨j + 1, by omega, by first | rfl | simp, ho2⟩
              case measure => simp [intOf]; omega
        | false =>
          have KG := bk.Bx.mk (fun t => ow_bad ho.out h1 h16 t)
          go_wp2_with fail
          refine (KG.out _).mono ?_
          rintro e w5 ⟨v, rfl, h5⟩
          have KT := bk.Bx.mk (ow_tick h5 h1 h16)
          clear h5 KG hc
          go_wp2_with fail
          refine KT.out.mono ?_
          rintro e w6 ⟨v6, rfl, h6⟩
          have HI := bk.Bx.mk h6
          clear h6 KT
          go_wp2_with fail
          try clear h43
          clear hz3 hz4 ht3
          go_loopw [10] (fun s10 wr2 => ∃ k : Nat, 1 ≤ k ∧ k ≤ n ∧ s10 = .int .i64 k ∧ bk.Bx (OW w1 n r q wr2)) (fun s10 _ => n - (intOf s10).toNat)
          case atStart => exact ⟨1, by omega, by omega, rfl, HI⟩
          case round =>
            obtain ⟨k, hk1, hk, rfl, ho2⟩ := hrel
            by_cases hkn : k < n
            · have KE := bk.Bx.mk (ow_tells ho2.out h16 hk1 hkn)
              go_wp2_with fail
              refine KE.out.mono ?_
              rintro e wt ⟨rfl, ht⟩
              have hbz : Below wt.heap.size wt (wt.alloc (.cells #[.bool false, .int .i64 0, .int .i64 0, .bool false] 43)) := (Below.refl _ wt).alloc (Nat.le_refl _) _
              have KL := bk.Bx.mk (ow_lets (ht.below hbz) h16 hk1 hkn)
              clear ht hbz KE ho2
              go_wp2_with fail
              refine KL.out.mono ?_
              rintro e wu ⟨rfl, hu⟩
              have HU := bk.Bx.mk hu
              clear hu KL
              go_wp2_with fail
              go_roundw
              case rel => exact ⟨k + 1, by omega, by omega, by first | rfl | simp, HU⟩
              case measure => simp [intOf]; omega
            · obtain rfl : k = n := by omega
              go_wp2_with fail
              go_roundw
              case rel => exact ⟨j + 1, by omega, by first | rfl | simp, ho2⟩
              case measure => simp [intOf]; omega
      | false =>
        cases x with
        | true =>
          have KG := bk.Bx.mk (fun t => ow_good ho.out h1 h16 t)
          go_wp2_with fail
          refine (KG.out _).mono ?_
          rintro e w5 ⟨v, rfl, h5⟩
          have HI := bk.Bx.mk h5
          clear h5 KG hc
          go_wp2_with fail
          try clear h43
          clear hz3 hz4 ht3
          go_loopw [10] (fun s10 wr2 => ∃ k : Nat, 1 ≤ k ∧ k ≤ n ∧ s10 = .int .i64 k ∧ bk.Bx (OW w1 n r q wr2)) (fun s10 _ => n - (intOf s10).toNat)
          case atStart => exact ⟨1, by omega, by omega, rfl, HI⟩
          case round =>
            obtain ⟨k, hk1, hk, rfl, ho2⟩ := hrel
            by_cases hkn : k < n
            · have KE := bk.Bx.mk (ow_tells ho2.out h16 hk1 hkn)
              go_wp2_with fail
              refine KE.out.mono ?_
              rintro e wt ⟨rfl, ht⟩
              have hbz : Below wt.heap.size wt (wt.alloc (.cells #[.bool false, .int .i64 0, .int .i64 0, .bool false] 43)) := (Below.refl _ wt).alloc (Nat.le_refl _) _
              have KL := bk.Bx.mk (ow_lets (ht.below hbz) h16 hk1 hkn)
              clear ht hbz KE ho2
              go_wp2_with fail
              refine KL.out.mono ?_
              rintro e wu ⟨rfl, hu⟩
              have HU := bk.Bx.mk hu
              clear hu KL
              go_wp2_with fail
              go_roundw
              case rel => exact ⟨k + 1, by omega, by omega, by first | rfl | simp, HU⟩
              case measure => simp [intOf]; omega
            · obtain rfl : k = n := by omega
              go_wp2_with fail
              go_roundw
              case rel => exact ⟨j + 1, by omega, by first | rfl | simp, ho2⟩
              case measure => simp [intOf]; omega
        | false =>
          have KG := bk.Bx.mk (fun t => ow_bad ho.out h1 h16 t)
          go_wp2_with fail
          refine (KG.out _).mono ?_
          rintro e w5 ⟨v, rfl, h5⟩
          have HI := bk.Bx.mk h5
          clear h5 KG hc
          go_wp2_with fail
          try clear h43
          clear hz3 hz4 ht3
          go_loopw [10] (fun s10 wr2 => ∃ k : Nat, 1 ≤ k ∧ k ≤ n ∧ s10 = .int .i64 k ∧ bk.Bx (OW w1 n r q wr2)) (fun s10 _ => n - (intOf s10).toNat)
          case atStart => exact ⟨1, by omega, by omega, rfl, HI⟩
          case round =>
            obtain ⟨k, hk1, hk, rfl, ho2⟩ := hrel
            by_cases hkn : k < n
            · have KE := bk.Bx.mk (ow_tells ho2.out h16 hk1 hkn)
              go_wp2_with fail
              refine KE.out.mono ?_
              rintro e wt ⟨rfl, ht⟩
              have hbz : Below wt.heap.size wt (wt.alloc (.cells #[.bool false, .int .i64 0, .int .i64 0, .bool false] 43)) := (Below.refl _ wt).alloc (Nat.le_refl _) _
              have KL := bk.Bx.mk (ow_lets (ht.below hbz) h16 hk1 hkn)
              clear ht hbz KE ho2
              go_wp2_with fail
              refine KL.out.mono ?_
              rintro e wu ⟨rfl, hu⟩
              have HU := bk.Bx.mk hu
              clear hu KL
              go_wp2_with fail
              go_roundw
              case rel => exact ⟨k + 1, by omega, by omega, by first | rfl | simp, HU⟩
              case measure => simp [intOf]; omega
            · obtain rfl : k = n := by omega
              go_wp2_with fail
              go_roundw
              case rel => exact ⟨j + 1, by omega, by first | rfl | simp, ho2⟩
              case measure => simp [intOf]; omega
    · obtain rfl : j = m := by omega
      obtain ⟨D, o1, o2⟩ := ho.out.ex
      have hlen : D.R.length ≤ 1000 := by rw [o1.len]; omega
      have hb0 : Below w.heap.size w wr := HB1.out.trans (ho.out.keep.mono HB1.out.size)
      have hb1 : w.heap.size ≤ w1.heap.size := HB1.out.size
      by_cases hgg : 1 ≤ gone ∧ gone ≤ (n : Int)
      · obtain ⟨hg1, hg2⟩ := hgg
        go_wp2_with fail
        go_ret
        exact ⟨rfl, hb0⟩
      · obtain ⟨A1, c1, bs, hx0⟩ := o2.ex
        have hxb := hx0.bounded
        have hE := fun f => o1.hitN hgg f
        have hx : D.R[0]? = some (D.R[0]'(by rw [o1.len]; omega)) := List.getElem?_eq_getElem _
        generalize D.R[0]'(by rw [o1.len]; omega) = x0 at hx
        obtain ⟨kx, px, wx, bx⟩ := x0
        obtain ⟨bop, bsi, bsp, btr⟩ := bx
        have KE := bk.Bx.mk (fun W (h : Hx W (fun g => w1.heap.size ≤ g ∧ g < wr.heap.size) r D A1 c1 q bs) => show Calls Try.prog 9 #[bp r, .int .i64 0] W fun e w' => e = .returned (.tuple #[.int .u16 (wx : Int), .agg #[.bool bop, .int .i64 bsi, .int .i64 bsp, .bool btr]]) ∧ Below W.heap.size W w' from tells_yes h hlen (k := 0) hx)
        have KG : bk.Bx (∀ W, Hx W (fun g => w1.heap.size ≤ g ∧ g < wr.heap.size) r D A1 c1 q bs → Calls Try.prog 16 #[bp r, .int .i64 gone, .bool false] W (Wr (fun g => w1.heap.size ≤ g ∧ g < wr.heap.size) r D A1 c1 q bs (.int .i64 30) W)) := ⟨fun W h => by
          have h9 := hgood_any h hlen o1.wi gone false
          rw [(hE _).1, (hE id).2] at h9
          exact h9⟩
        have KB : bk.Bx (∀ W, Hx W (fun g => w1.heap.size ≤ g ∧ g < wr.heap.size) r D A1 c1 q bs → Calls Try.prog 17 #[bp r, .int .i64 gone, .bool true] W (Wr (fun g => w1.heap.size ≤ g ∧ g < wr.heap.size) r D A1 c1 q bs (.int .i64 30) W)) := ⟨fun W h => by
          have h9 := hbad_any h hlen o1.wi gone true
          rw [(hE _).1, (hE id).2] at h9
          exact h9⟩
        have KK : bk.Bx (∀ W, Hx W (fun g => w1.heap.size ≤ g ∧ g < wr.heap.size) r D A1 c1 q bs → Calls Try.prog 18 #[bp r, .int .i64 gone, .bool true] W (Wr (fun g => w1.heap.size ≤ g ∧ g < wr.heap.size) r D A1 c1 q bs (.int .i64 30) W)) := ⟨fun W h => by
          have h9 := hback_any h hlen gone true
          rw [(hE _).1, (hE id).2] at h9
          exact h9⟩
        have KX := bk.Bx.mk hxb
        have K0 := bk.Bx.mk hb0
        have KL := bk.Bx.mk hb1
        clear hx hE hxb hx0 o1 o2 hb0 hb1 ho hlen HR HM
        rcases (show ¬ 1 ≤ gone ∨ (1 ≤ gone ∧ ¬ gone ≤ (n : Int)) by omega) with hg | ⟨hg, hg2⟩
        all_goals
          clear hgg
          go_wp2_with fail
          refine (KE.out _ KX.out).mono ?_
          rintro e w4 ⟨rfl, hb4⟩
          have hoz : OZ w w1 wr r q D A1 c1 bs w4.heap.size #[.bool bop, .int .i64 bsi, .int .i64 bsp, .bool btr] (w4.alloc (.cells #[.bool bop, .int .i64 bsi, .int .i64 bsp, .bool btr] 43)) :=
            ⟨(KX.out.below hb4).below ((Below.refl _ w4).alloc (Nat.le_refl _) _), Lies.new w4 _ _, hb4.size, KL.out, (K0.out.trans (hb4.mono K0.out.size)).alloc (K0.out.trans (hb4.mono K0.out.size)).size _⟩
          have HZ := bk.Bx.mk hoz
          clear hoz hb4
          go_wp2_with fail
          refine (KG.out _ HZ.out.hx).mono ?_
          rintro e w5 hw5
          obtain rfl := hw5.eq
          have HZ5 := bk.Bx.mk (HZ.out.step hw5)
          clear hw5
          go_wp2_with fail
          refine (KB.out _ HZ5.out.hx).mono ?_
          rintro e w6 hw6
          obtain rfl := hw6.eq
          have HZ6 := bk.Bx.mk (HZ5.out.step hw6)
          clear hw6
          go_wp2_with fail
          refine (KK.out _ HZ6.out.hx).mono ?_
          rintro e w7 hw7
          obtain rfl := hw7.eq
          have HZ7 := bk.Bx.mk (HZ6.out.step hw7)
          clear hw7
          go_wp2_with fail
          refine (KE.out _ HZ7.out.hx).mono ?_
          rintro e w8 ⟨rfl, hb8⟩
          have hz9 := (HZ7.out.grow hb8).grow ((Below.refl _ w8).alloc (Nat.le_refl _) (.cells #[.bool bop, .int .i64 bsi, .int .i64 bsp, .bool btr] 43))
          have HB9 := bk.Bx.mk hz9.below
          have HL8 := (HZ7.out.grow hb8).lies
          have d0 := HL8.cell 0
          have d1 := HL8.cell 1
          have d2 := HL8.cell 2
          have d3 := HL8.cell 3
          have dlt := HL8.lt
          simp at d0 d1 d2 d3
          clear hb8 hz9 HL8
          go_wp2_with fail
          go_ret
          exact ⟨rfl, HB9.out⟩
set_option maxRecDepth 100000 in
set_option maxHeartbeats 4000000 in
theorem own_no (n : Int) (gone : Int) (A : Option Addr) (m c : Nat) (w : World) (h : n < 2 ∨ 16 < n ∨ 60 < m) :
    Calls Try.prog 5 #[.int .i64 n, .slice A m c, .int .i64 gone] w fun e w' => e = .returned (.bool true) ∧ Below w.heap.size w w' := by
  have HA := bk.Bx.mk (awake_any w)
  rcases (show n < 2 ∨ (¬ n < 2 ∧ 16 < n) ∨ (¬ n < 2 ∧ ¬ 16 < n ∧ 60 < m) by omega) with h1 | ⟨h1, h2⟩ | ⟨h1, h2, h3⟩
  all_goals
    clear h
    go_enter Try.func5, Try.ntmps5
    go_wp2_with fail
    refine HA.out.mono ?_
    rintro e w1 ⟨rfl, hb1⟩
    have HB1 := bk.Bx.mk hb1
    clear hb1 HA
    go_wp2_with fail
    go_ret
    exact ⟨rfl, HB1.out⟩
theorem own_walk (n : Int) (gone : Int) (A : Option Addr) (c : Nat) (l : List Bool) (w : World) (hr : pl.RowAt w (fun g => g < w.heap.size) A (pl.BV l)) :
    Calls Try.prog 5 #[.int .i64 n, .slice A l.length c, .int .i64 gone] w fun e w' => e = .returned (.bool true) ∧ Below w.heap.size w w' := by
  by_cases h : n < 2 ∨ 16 < n ∨ 60 < l.length
  · exact own_no n gone A l.length c w h
  · obtain ⟨k, rfl⟩ : ∃ k : Nat, n = (k : Int) := ⟨n.toNat, by omega⟩
    exact own_yes k gone A c l w hr (by omega) (by omega) (by omega)
end Go.Proofs.Ytpidjekabnnmcaa.hp
