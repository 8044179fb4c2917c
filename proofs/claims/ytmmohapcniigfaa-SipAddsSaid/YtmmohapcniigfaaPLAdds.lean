/-
  Given for the seat's laws: SipAdds at any key and any pieces. No condition.
-/
import Derived.Test.YtmmohapcniigfaaPCut
namespace Go.Proofs.Ytmmohapcniigfaa.sp
open Go.RowKit mem
set_option linter.unusedVariables false

/-- a piece: where it lies, its length, its capacity, its bytes -/
structure Row where
  a : Option Addr
  n : Nat
  c : Nat
  l : Str
def RowsAt (w : World) (A : Option Addr) (rs : List Row) : Prop := 0 < rs.length → ∃ g off, A = some ⟨g, off, none⟩ ∧ g < w.heap.size ∧ ∀ (j : Nat) (r : Row), rs[j]? = some r → w.cell? ⟨g, off + j, none⟩ = some (.slice r.a r.n r.c) ∧ Spell w (fun g => g < w.heap.size) r.a r.n r.c r.l

abbrev oddc : Array Value := #[.pointer none, .int .u64 0, .int .u64 0, .int .u64 0, .int .u64 0, .int .u64 0, .int .u8 0]
/-- on the way: what was added to the Hash lies in a row of the call's own, too -/
structure AL (w : World) (g go : Nat) (k0 k1 : W64) (all : Str) (v : Value) (wr : World) : Prop where
  hh : HH wr g k0 k1 all
  odd : Lies wr go 32 oddc
  made : Made w wr v all
theorem AL.keep {w wr w2 : World} {g go : Nat} {k0 k1 : W64} {all : Str} {v : Value} {S : Nat → Prop} (h : AL w g go k0 k1 all v wr) (hk : Keep wr.heap.size S wr w2) (h1 : ¬ S g) (h2 : ¬ S go) (h3 : ∀ x, v.ownBlock = some x → ¬ S x) (h4 : ∀ x, x < w.heap.size → ¬ S x) : AL w g go k0 k1 all v w2 :=
  ⟨h.hh.keep (hk.block g h.hh.lies.lt h1), h.odd.of_same (hk.block go h.odd.lt h2), ⟨own_same h.made.own (fun x e => hk.block x (own_lt h.made.own e).2 (h3 x e)), h.made.below.trans (hk.below h.made.below.size h4)⟩⟩
theorem AL.fresh {w wr w2 : World} {g go : Nat} {k0 k1 : W64} {all : Str} {v : Value} (h : AL w g go k0 k1 all v wr) (hb : Below wr.heap.size wr w2) : AL w g go k0 k1 all v w2 :=
  h.keep (Keep.of_below hb (fun _ => False)) id id (fun _ _ => id) (fun _ _ => id)
/-- .. and the caller's own copy of the piece -/
structure AM (w wr : World) (g go : Nat) (k0 k1 : W64) (all : Str) (v vm : Value) (nr : Nat) (wk : World) : Prop where
  al : AL w g go k0 k1 all v wk
  own : ∃ lk : Str, lk.length = nr ∧ wk.ownsRow wr.heap.size 5 1 vm nr (B8 (ints lk))
  sep : ∀ x, vm.ownBlock = some x → v.ownBlock ≠ some x
  size : w.heap.size ≤ wr.heap.size
theorem ne_hash : (5 : Nat) ≠ 32 := by decide
theorem ints_set (l : Str) (k : Nat) (y : UInt8) : B8 (ints (l.set k y)) = (B8 (ints l)).set k (.int .u8 (y.toNat : Int)) := by simp [ints, B8, List.map_set]
theorem AM.store {w wr wk : World} {g go : Nat} {k0 k1 : W64} {all : Str} {v : Value} {nr gm cm : Nat} (h : AM w wr g go k0 k1 all v (.slice (some ⟨gm, 0, none⟩) nr cm) nr wk) (k : Nat) (y : UInt8) :
    AM w wr g go k0 k1 all v (.slice (some ⟨gm, 0, none⟩) nr cm) nr (wk.setCell ⟨gm, k, none⟩ (.int .u8 (y.toNat : Int))) := by
  obtain ⟨lk, hl, ho⟩ := h.own
  obtain ⟨h1, h2⟩ := ho.stored k (.int .u8 (y.toNat : Int))
  have hgm := (own_lt ho (g := gm) rfl).1
  refine ⟨h.al.keep (S := fun x => x = gm) ((Keep.refl wk.heap.size (fun x => x = gm) wk).setCell (p := ⟨gm, k, none⟩) (.inr rfl) _) ?_ ?_ ?_ ?_, ⟨lk.set k y, by simpa using hl, by rw [ints_set]; exact h1⟩, h.sep, h.size⟩
  · exact fun e => own_ne ho h.al.hh.lies ne_hash (by rw [e]; rfl)
  · exact fun e => own_ne ho h.al.odd ne_hash (by rw [e]; rfl)
  · exact fun x e1 e2 => h.sep gm rfl (by rw [e1, e2])
  · exact fun x hx e => by have := h.size; omega
theorem AM.fresh {w wr wk w2 : World} {g go : Nat} {k0 k1 : W64} {all : Str} {v vm : Value} {nr : Nat} (h : AM w wr g go k0 k1 all v vm nr wk) (hb : Below wk.heap.size wk w2) : AM w wr g go k0 k1 all v vm nr w2 := by
  obtain ⟨lk, hl, ho⟩ := h.own
  exact ⟨h.al.fresh hb, ⟨lk, hl, own_same ho (fun x e => hb.block x (own_lt ho e).2)⟩, h.sep, h.size⟩
/-- one byte of the copy -/
theorem AM.cell {w wr wk : World} {g go : Nat} {k0 k1 : W64} {all : Str} {v : Value} {nr cm k : Nat} {A : Option Addr} (h : AM w wr g go k0 k1 all v (.slice A nr cm) nr wk) (hk : k < nr) :
    ∃ gm y, A = some ⟨gm, 0, none⟩ ∧ wk.cell? ⟨gm, k, none⟩ = some (.int .u8 ((y : UInt8).toNat : Int)) ∧ wk.frozen? ⟨gm, k, none⟩ = false := by
  obtain ⟨lk, hl, ho⟩ := h.own
  obtain ⟨gm, cap, e, _, _⟩ := ho.form (by omega)
  simp only [Value.slice.injEq] at e
  obtain ⟨rfl, _, rfl⟩ := e
  refine ⟨gm, lk[k]'(by omega), rfl, ?_, ho.frozenAt k⟩
  rw [ho.cellAt k (by omega)]
  simp [B8, ints, hl, hk]

/-- what a piece leads to -/
theorem adds_step {w wr : World} {g go : Nat} {k0 k1 : W64} {all : Str} {A : Option Addr} {c : Nat} (h : AL w g go k0 k1 all (.slice A all.length c) wr) (hne : go ≠ g) (hg : w.heap.size ≤ g) {r : Row} (hr : Spell w (fun g => g < w.heap.size) r.a r.n r.c r.l) (hn : all.length + r.n ≤ 1000) :
    ∃ A2 c2 w2 A3 c3 w3, (Builtin.append_ #[23, 23] 23 #[.slice (some ⟨wr.heap.size, 0, none⟩) 0 0, .slice r.a r.n r.c]).run Try.prog (wr.alloc (.cells #[] 5)) = .ok (.slice A2 r.n c2) w2 ∧ Below w.heap.size w w2 ∧
      (Builtin.append_ #[23, 23] 23 #[.slice A all.length c, .slice r.a r.n r.c]).run Try.prog w2 = .ok (.slice A3 (all ++ r.l).length c3) w3 ∧ HH w3 g k0 k1 all ∧
      (∃ ok, Spell w3 ok A2 r.n c2 r.l ∧ ∀ x, ok x → x ≠ g ∧ x < w3.heap.size) ∧
      ∀ w4, Added w3 g k0 k1 (all ++ r.l) w4 → AM w wr g go k0 k1 (all ++ r.l) (.slice A3 (all ++ r.l).length c3) (.slice A2 r.n c2) r.n w4 := by
  have hrl := spell_len hr
  have hr1 : Spell wr (fun g => g < wr.heap.size) r.a r.n r.c r.l := (hr.below h.made.below (fun g h => h)).weak (fun g hg => Nat.lt_of_lt_of_le hg h.made.below.size)
  obtain ⟨A2, c2, w2, hrun2, hm⟩ := mine hr1 (fun g h => h) (by omega)
  have h2 := h.fresh hm.below
  have hr2 : Spell w2 (fun g => g < w.heap.size) r.a r.n r.c r.l := hr.below h2.made.below (fun g h => h)
  obtain ⟨A3, c3, w3, hrun3, ho3, hg3, hat⟩ := append_at h2.made.own hr2 (by omega) h2.made.below.size
  have hlen : (all ++ r.l).length = all.length + r.n := by simp [hrl]
  have mown : w2.ownsRow wr.heap.size 5 1 (.slice A2 r.n c2) r.n (B8 (ints r.l)) := by have := hm.own; rw [hrl] at this; exact this
  have hsep0 : ∀ x, (Value.slice A2 r.n c2).ownBlock = some x → (Value.slice A all.length c).ownBlock ≠ some x := fun x e1 e2 => by
    have a1 := (own_lt mown e1).1
    have a2 := (own_lt h.made.own e2).2
    omega
  have hgne : (Value.slice A all.length c).ownBlock ≠ some g := own_ne h2.made.own h2.hh.lies ne_hash
  have hgone : (Value.slice A all.length c).ownBlock ≠ some go := own_ne h2.made.own h2.odd ne_hash
  have hh3 : HH w3 g k0 k1 all := h2.hh.keep (hg3.block g h2.hh.lies.lt (fun e => hgne e.symm))
  have odd3 : Lies w3 go 32 oddc := h2.odd.of_same (hg3.block go h2.odd.lt (fun e => hgone e.symm))
  have mown3 : w3.ownsRow wr.heap.size 5 1 (.slice A2 r.n c2) r.n (B8 (ints r.l)) := own_same mown (fun x e => hg3.block x (own_lt mown e).2 (fun e2 => hsep0 x e e2.symm))
  have made3 : Made w w3 (.slice A3 (all ++ r.l).length c3) (all ++ r.l) := by
    refine ⟨?_, h2.made.below.grown hg3 h2.made.below.size (own_ge h2.made.own)⟩
    rw [hlen, ints_app]
    exact ho3
  have hsep3 : ∀ x, (Value.slice A2 r.n c2).ownBlock = some x → (Value.slice A3 (all ++ r.l).length c3).ownBlock ≠ some x := fun x e1 e2 => by
    rcases hat x (by rw [← hlen]; exact e2) with e | e
    · exact hsep0 x e1 e
    · have := (own_lt mown e1).2
      omega
  refine ⟨A2, c2, w2, A3, c3, w3, hrun2, h2.made.below, by rw [hlen]; exact hrun3, hh3, ⟨_, own_spell mown3, fun x hx => ⟨fun e => own_ne mown3 hh3.lies ne_hash (by rw [← e]; exact hx.2.2), hx.2.1⟩⟩, fun w4 ha => ?_⟩
  have hk := ha.keep
  refine ⟨⟨ha.hh, odd3.of_same (hk.block go odd3.lt hne), ⟨own_same made3.own (fun x e => hk.block x (own_lt made3.own e).2 (fun e2 => own_ne made3.own hh3.lies ne_hash (by rw [← e2]; exact e))), made3.below.trans (hk.below made3.below.size (fun k hk e => by omega))⟩⟩, ⟨r.l, hrl, own_same mown3 (fun x e => hk.block x (own_lt mown3 e).2 (fun e2 => own_ne mown3 hh3.lies ne_hash (by rw [← e2]; exact e)))⟩, hsep3, h.made.below.size⟩

set_option maxHeartbeats 4000000 in
set_option maxRecDepth 100000 in
theorem adds_walk {w : World} (k0 k1 : W64) {A : Option Addr} {c : Nat} {rs : List Row} (hrs : RowsAt w A rs) :
    Calls Try.prog 4 #[.int .u64 (num k0), .int .u64 (num k1), .slice A rs.length c] w (True_ w) := by
  obtain ⟨m, hm⟩ : ∃ m, rs.length = m := ⟨_, rfl⟩
  rw [hm]
  have HM : Bx _ := ⟨hm⟩
  by_cases h4 : 40 < m
  · clear hm hrs
    go_enter Try.func4, Try.ntmps4
    go_wp2_with fail
    go_ret
    exact ⟨rfl, Below.refl _ _⟩
  · have HRS := Lib.hid hrs
    have HNW := Lib.hid (fun W => new_any k0 k1 W)
    clear hm hrs
    go_enter Try.func4, Try.ntmps4
    go_wp2_with fail
    refine (HNW.out _).mono ?_
    rintro e w1 ⟨g, rfl, hg, hh, hb⟩
    have HG := Lib.hid hg
    have HNE := Lib.hid (show w1.heap.size ≠ g from fun e => by have := hh.lies.lt; omega)
    have h0 : Hid (AL w g w1.heap.size k0 k1 [] (.slice none ([] : Str).length 0) (w1.alloc (.cells oddc 32))) :=
      Lib.hid ⟨hh.below ((Below.refl _ _).alloc (Nat.le_refl _) _) hh.lies.lt, Lies.new _ _ _, ⟨own_none _ _ _, hb.alloc hb.size _⟩⟩
    have HGO := Lib.hid hb.size
    clear hg hh hb
    go_wp2_with fail
    generalize w1.heap.size = go at *
    go_loopw [10, 11] (fun s10 s11 wr => ∃ (i : Nat) (all : Str) (A' : Option Addr) (c' : Nat), i ≤ m ∧ all.length ≤ 1000 ∧ s10 = .slice A' all.length c' ∧ s11 = .int .i64 (i : Int) ∧ Hid (AL w g go k0 k1 all (.slice A' all.length c') wr)) (fun _ s11 _ => m - (intOf s11).toNat)
    case atStart => exact ⟨0, [], none, 0, by omega, by simp, rfl, rfl, h0⟩
    case round =>
      clear h0
      obtain ⟨i, all, A', c', hi, hall, rfl, rfl, HA⟩ := hrel
      by_cases hlt : i < m
      · obtain ⟨r, hri⟩ : ∃ r, rs[i]? = some r := ⟨rs[i]'(by rw [HM.out]; exact hlt), List.getElem?_eq_getElem _⟩
        obtain ⟨gz, oz, rfl, hgz, hcz⟩ := HRS.out (by rw [HM.out]; omega)
        obtain ⟨hc1, hr⟩ := hcz i r hri
        have cz : wr.cell? ⟨gz, oz + i, none⟩ = some (.slice r.a r.n r.c) := (HA.out.made.below.cell (p := ⟨gz, oz + i, none⟩) hgz).trans hc1
        have hrmax := hr.max
        have hrcap := hr.cap
        unfold maxLen at hrmax
        by_cases hbig : r.n + all.length > 1000
        · have hbg : (1000 : Int) - (all.length : Int) < (r.n : Int) := by omega
          have HB := Lib.hid HA.out.made.below
          generalize all.length = na at *
          clear hri hcz hc1 hr HA
          go_wp2_with fail
          go_ret
          exact ⟨rfl, HB.out⟩
        · obtain ⟨A2, c2, w2, A3, c3, w3, hrun2, hb2, hrun3, hh3, ⟨ok3, hs3, hok3⟩, hst⟩ := adds_step HA.out HNE.out HG.out hr (by omega)
          have cz2 : w2.cell? ⟨gz, oz + i, none⟩ = some (.slice r.a r.n r.c) := (hb2.cell (p := ⟨gz, oz + i, none⟩) hgz).trans hc1
          have cza : (wr.alloc (.cells #[] 5)).cell? ⟨gz, oz + i, none⟩ = some (.slice r.a r.n r.c) := (((Below.refl wr.heap.size wr).alloc (Nat.le_refl _) (.cells #[] 5)).cell (p := ⟨gz, oz + i, none⟩) (cell_lt cz)).trans cz
          have hlen : (all ++ r.l).length = all.length + r.n := by simp [spell_len hr]
          have HLE : Bx ((all ++ r.l).length ≤ 1000) := ⟨by rw [hlen]; omega⟩
          have HAD := Lib.hid (add_any hh3 hs3 hok3)
          have HAN := Lib.hid (fun v W => add_none v W)
          have HST := Lib.hid hst
          have H2 := Lib.hid hrun2
          have H3 := Lib.hid hrun3
          generalize all ++ r.l = al2 at *
          obtain ⟨ra, rn, rc, rl'⟩ := r
          generalize all.length = na at *
          have hle : (rn : Int) ≤ 1000 - (na : Int) := by
            have : ¬ rn + na > 1000 := hbig
            omega
          have hna : na ≤ 1000 := hall
          have hrn : rn ≤ 1000 := by omega
          clear hri hcz hc1 hr HA hb2 hrun2 hrun3 hh3 hs3 hok3 hst hlen hbig
          go_wp2_with (at_builtin; first | (refine wpList_append_eq rfl _ _ rfl rfl rfl rfl H2.out ?_) | (refine wpList_append_eq rfl _ _ rfl rfl rfl rfl H3.out ?_))
          refine HAD.out.mono ?_
          rintro e w4 ⟨rfl, ha⟩
          have HAM := Lib.hid (HST.out w4 ha)
          clear ha HAD cz cz2 cza H2 H3 HST
          go_wp2_with fail
          refine (HAN.out _ _).mono ?_
          rintro e w5 ⟨rfl, rfl⟩
          have HAO := Lib.hid (add_odd (HAM.out.al.odd.cell 0) (.slice A2 rn c2))
          go_wp2_with fail
          refine HAO.out.mono ?_
          rintro e w6 ⟨rfl, rfl⟩
          clear HAO
          go_wp2_with fail
          go_loopw [13] (fun s13 wk => ∃ k : Nat, k ≤ rn ∧ s13 = .int .i64 (k : Int) ∧ Hid (AM w wr g go k0 k1 al2 (.slice A3 al2.length c3) (.slice A2 rn c2) rn wk)) (fun s13 _ => rn - (intOf s13).toNat)
          case atStart => exact ⟨0, by omega, rfl, HAM⟩
          case round =>
            clear HAM
            obtain ⟨k, hk, rfl, HK⟩ := hrel
            by_cases hlk : k < rn
            · obtain ⟨gm, y, rfl, cy, fy⟩ := HK.out.cell hlk
              have hyb := y.toNat_lt
              have hadd : IntKind.u8.wrap ((y.toNat : Int) + 1) = ((y + 1).toNat : Int) := by
                rw [IntKind.wrap_u8', UInt8.toNat_add]
                show _ = ((((y.toNat + 1) % 256 : Nat)) : Int)
                omega
              have HK2 := Lib.hid (HK.out.store k (y + 1))
              generalize y + 1 = y2 at *
              clear HK
              go_wp2_with fail
              go_roundw
              case rel => exact ⟨k + 1, by omega, by go_num, HK2⟩
              case measure => simp [intOf]; omega
            · have HT := Lib.hid (told_any HK.out.al.hh)
              go_wp2_with fail
              refine HT.out.mono ?_
              rintro e w7 ⟨rfl, hb7⟩
              have HK2 := Lib.hid (HK.out.fresh hb7)
              have HS := Lib.hid (rsum_any k0 k1 (own_spell HK2.out.al.made.own) (fun g hg => hg.2.1) (by have := HLE.out; omega))
              clear hb7 HT HK
              go_wp2_with fail
              refine HS.out.mono ?_
              rintro e w8 ⟨rfl, hb8⟩
              have HK3 := Lib.hid ((HK2.out.fresh hb8).al)
              clear hb8 HS HK2
              go_wp2_with fail
              go_roundw
              case rel => exact ⟨i + 1, al2, A3, c3, by omega, HLE.out, rfl, by go_num, HK3⟩
              case measure => simp [intOf]; omega
      · obtain rfl : i = m := by omega
        have HT := Lib.hid (told_any HA.out.hh)
        have hall2 := hall
        go_wp2_with fail
        refine HT.out.mono ?_
        rintro e w7 ⟨rfl, hb7⟩
        have HA2 := Lib.hid (HA.out.fresh hb7)
        have HS := Lib.hid (rsum_any k0 k1 (own_spell HA2.out.made.own) (fun g hg => hg.2.1) (by omega))
        clear hb7 HT HA
        go_wp2_with fail
        refine HS.out.mono ?_
        rintro e w8 ⟨rfl, hb8⟩
        have HA3 := Lib.hid (HA2.out.fresh hb8)
        have HTN := Lib.hid (fun W => told_none W)
        clear hb8 HS HA2
        go_wp2_with fail
        refine (HTN.out _).mono ?_
        rintro e w9 ⟨rfl, rfl⟩
        have HTO := Lib.hid (told_odd (HA3.out.odd.cell 0))
        go_wp2_with fail
        refine HTO.out.mono ?_
        rintro e w10 ⟨rfl, rfl⟩
        go_wp2_with fail
        go_ret
        exact ⟨rfl, HA3.out.made.below⟩
theorem adds_at {w : World} {a0 a1 : Int} (h0 : 0 ≤ a0 ∧ a0 < 18446744073709551616) (h1 : 0 ≤ a1 ∧ a1 < 18446744073709551616) {A : Option Addr} {c : Nat} {rs : List Row} (hrs : RowsAt w A rs) :
    Calls Try.prog 4 #[.int .u64 a0, .int .u64 a1, .slice A rs.length c] w (True_ w) := by
  obtain ⟨k0, rfl⟩ := num_of h0.1 h0.2
  obtain ⟨k1, rfl⟩ := num_of h1.1 h1.2
  exact adds_walk k0 k1 hrs
end Go.Proofs.Ytmmohapcniigfaa.sp
