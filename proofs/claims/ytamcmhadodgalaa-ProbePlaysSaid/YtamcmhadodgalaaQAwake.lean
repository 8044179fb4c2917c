/-
  Given for the seat's laws: the state between two calls, the contract of due where it answers yes, and of awake. No condition but those of the theorems.
-/
import Derived.Test.YtamcmhadodgalaaQKeys
import Derived.Deep.QuietTactic
import Derived.BigQuiet
namespace Go.Proofs.Ytamcmhadodgalaa.pl
open Go.RowKit Go.Shelf mem find pb
set_option linter.unusedVariables false

/-- between two calls: the plan, of blocks that were made behind w, and nothing of w is turned -/
structure St (w : World) (S : Nat → Prop) (r : Nat) (ev : Int) (R : List (Int × Int)) (W : World) : Prop where
  pn : Pn W S r ev R
  lt : ∀ g, S g → w.heap.size ≤ g ∧ g < W.heap.size
  below : Below w.heap.size w W
/-- what a row that is handed in stands in -/
abbrev okIn (S : Nat → Prop) (W : World) : Nat → Prop := fun g => g < W.heap.size ∧ ¬ S g

section
variable {w W W' : World} {S : Nat → Prop} {r : Nat} {ev ev' : Int} {R R' : List (Int × Int)}
theorem St.later (h : St w S r ev R W) (hb : Below W.heap.size W W') : St w S r ev R W' :=
  ⟨h.pn.below hb, fun g e => ⟨(h.lt g e).1, Nat.lt_of_lt_of_le (h.lt g e).2 hb.size⟩, h.below.trans (hb.mono h.below.size)⟩
theorem St.kept (h : St w S r ev R W) (hp : Pn W' S r ev' R') (hk : Keep W.heap.size S W W') : St w S r ev' R' W' :=
  ⟨hp, fun g e => ⟨(h.lt g e).1, Nat.lt_of_lt_of_le (h.lt g e).2 hk.size⟩, h.below.trans (hk.below h.below.size (fun k hk' e => by have := (h.lt k e).1; omega))⟩
theorem St.did (h : St w S r ev R W) (hd : Did S r ev' R' W W') : St w (fun g => (S g ∨ W.heap.size ≤ g) ∧ g < W'.heap.size) r ev' R' W' :=
  ⟨hd.pn.bounded, fun g e => ⟨by rcases e.1 with e1 | e1; exact (h.lt g e1).1; exact Nat.le_trans h.below.size e1, e.2⟩,
    h.below.trans (hd.keep.below h.below.size (fun k hk e => by have := (h.lt k e).1; omega))⟩
theorem St.made {w1 : World} (hb : Below w.heap.size w w1) (hn : News w1 w1.heap.size ev W) : St w (fun g => w1.heap.size ≤ g ∧ g < W.heap.size) w1.heap.size ev [] W :=
  ⟨hn.pn.bounded, fun g e => ⟨Nat.le_trans hb.size e.1, e.2⟩, hb.trans (hn.below.mono hb.size)⟩
theorem RowAt.keeps {A : Option Addr} {vs : List Value} (h : RowAt W (okIn S W) A vs) (hk : Keep W.heap.size S W W') : RowAt W' (okIn S W') A vs :=
  (h.keep fun g hg => hk.block g hg.1 hg.2).weak fun g hg => ⟨Nat.lt_of_lt_of_le hg.1 hk.size, hg.2⟩
theorem RowAt.later {A : Option Addr} {vs : List Value} (h : RowAt W (okIn S W) A vs) (hb : Below W.heap.size W W') : RowAt W' (okIn S W') A vs :=
  (h.below hb fun g hg => hg.1).weak fun g hg => ⟨Nat.lt_of_lt_of_le hg.1 hb.size, hg.2⟩
/-- a literal, just made -/
theorem St.lit (h : St w S r ev R W) (xs : List Int) : St w S r ev R (W.alloc (.cells (I8 xs).toArray 3)) ∧ RowAt (W.alloc (.cells (I8 xs).toArray 3)) (okIn S (W.alloc (.cells (I8 xs).toArray 3))) (some ⟨W.heap.size, 0, none⟩) (I8 xs) :=
  ⟨h.later ((Below.refl _ W).alloc (Nat.le_refl _) _), RowAt.of_lies (Lies.new W 3 _) ⟨by simp, fun e => Nat.lt_irrefl _ (h.lt _ e).2⟩ (by simp)⟩
end

/-- what due leaves, where it answers yes -/
structure DuePost (S : Nat → Prop) (r : Nat) (ev now : Int) (ws : List Int) (R : List (Int × Int)) (w : World) (e : Ending) (w' : World) : Prop where
  eq : e = .returned (.bool true)
  pn : Pn w' S r ev (pb.round now ev ws R)
  keep : Keep w.heap.size S w w'

set_option maxRecDepth 100000 in
set_option maxHeartbeats 2000000 in
theorem due_yes {w : World} {S : Nat → Prop} {r : Nat} {ev : Int} {R : List (Int × Int)} (h : Pn w S r ev R) {Aw Aq : Option Addr} {cw cq : Nat} {ws qs : List Int} (ha : RowAt w (okIn S w) Aw (I8 ws)) (hwl : ws.length ≤ 1000) (hq : RowAt w (okIn S w) Aq (I8 qs))
    {now : Int} (n1 : 0 ≤ now) (n2 : now ≤ 1099511626775) (he : dues now ws R = qs) :
    Calls Try.prog 22 #[.pointer (some ⟨r, 0, none⟩), .int .i64 now, .slice Aw ws.length cw, .slice Aq qs.length cq] w (DuePost S r ev now ws R w) := by
  have hr := round_any (cw := cw) h ha hwl n1 n2
  have hdl := dues_len now ws R
  have h64 := h.len
  rw [he] at hdl
  obtain ⟨nw, hnw⟩ : ∃ nw, ws.length = nw := ⟨_, rfl⟩
  rw [hnw] at hr ⊢
  have HR := Bx.mk hr
  have HQ := Bx.mk hq
  have HE := Bx.mk he
  obtain ⟨n, hn⟩ : ∃ n, qs.length = n := ⟨_, rfl⟩
  have HN := Bx.mk hn
  have hn64 : n ≤ 64 := by omega
  rw [hn]
  clear h ha hq he hr hdl h64 hn hnw hwl
  go_enter Try.func22, Try.ntmps22
  go_wp2_with fail
  refine HR.out.mono ?_
  rintro e w1 ⟨A, c, rfl, ho, hp, hk⟩
  rw [HE.out] at ho
  have hq1 := HQ.out.keeps hk
  have ho1 := RowAt.of_own ho
  rw [HE.out, HN.out]
  have HQ1 := Bx.mk hq1
  have HO1 := Bx.mk ho1
  have HP := Bx.mk hp
  have HK := Bx.mk hk
  clear hq1 ho1 hp hk ho HR HQ
  go_wp2
  go_loopw [10] (fun s wr => ∃ k : Nat, k ≤ n ∧ s = .int .i64 k ∧ Bx (Still w1 wr)) (fun s _ => n - (intOf s).toNat)
  case atStart => exact ⟨0, Nat.zero_le _, rfl, ⟨Still.refl _⟩⟩
  case round =>
    obtain ⟨k, hk, rfl, hst⟩ := hrel
    by_cases hlt : k < n
    · obtain ⟨z, hz⟩ : ∃ z, qs[k]? = some z := ⟨_, List.getElem?_eq_getElem (by rw [HN.out]; exact hlt)⟩
      obtain ⟨g, o, rfl, _, k1⟩ := HO1.out.cell (I8_get hz)
      obtain ⟨g', o', rfl, _, k2⟩ := HQ1.out.cell (I8_get hz)
      have c1 : wr.cell? ⟨g, o + k, none⟩ = some (.int .i64 z) := (hst.out.cell _).trans k1
      have c2 : wr.cell? ⟨g', o' + k, none⟩ = some (.int .i64 z) := (hst.out.cell _).trans k2
      have hlt2 : (k : Int) < (n : Int) := by omega
      have hk0 : (0 : Int) ≤ (k : Int) := by omega
      clear k1 k2 hz
      go_wp2
      go_quiet (fail)
      go_wp2
      go_roundw
      case rel => exact ⟨k + 1, by omega, by go_num, ⟨hst.out.trans (Still.drewN _ _)⟩⟩
      case measure => simp [intOf]; omega
    · go_wp2
      go_ret
      exact ⟨rfl, HP.out.below (hst.out.below _), HK.out.trans (Keep.of_below ((hst.out.below _).mono HK.out.size) S)⟩

/-- due, in the state between two calls -/
theorem St.due {w W : World} {S : Nat → Prop} {r : Nat} {ev : Int} {R : List (Int × Int)} (h : St w S r ev R W) {Aw Aq : Option Addr} {nw nq cw cq : Nat} {ws qs : List Int} (ha : RowAt W (okIn S W) Aw (I8 ws)) (hnw : ws.length = nw) (hwl : nw ≤ 1000) (hq : RowAt W (okIn S W) Aq (I8 qs)) (hnq : qs.length = nq)
    {now : Int} (n1 : 0 ≤ now) (n2 : now ≤ 1099511626775) (he : dues now ws R = qs) (R' : List (Int × Int)) (hR : pb.round now ev ws R = R') :
    Calls Try.prog 22 #[.pointer (some ⟨r, 0, none⟩), .int .i64 now, .slice Aw nw cw, .slice Aq nq cq] W fun e W' => e = .returned (.bool true) ∧ St w S r ev R' W' ∧ Keep W.heap.size S W W' := by
  subst hnw hnq hR
  refine (due_yes h.pn ha hwl hq n1 n2 he).mono ?_
  rintro e W' ⟨rfl, hp, hk⟩
  exact ⟨rfl, h.kept hp hk, hk⟩

set_option maxRecDepth 100000 in
set_option maxHeartbeats 4000000 in
theorem awake_any (w : World) : Calls Try.prog 21 #[] w fun e w' => e = .returned (.bool true) ∧ Below w.heap.size w w' := by
  obtain ⟨r, hr⟩ : ∃ r, w.heap.size = r := ⟨_, rfl⟩
  have hnew := new_ok 5 w (by decide) (by decide)
  have hst : ∀ w1, News w w.heap.size 5 w1 → St w (fun g => w.heap.size ≤ g ∧ g < w1.heap.size) w.heap.size 5 [] w1 := fun w1 hn => St.made (Below.refl _ _) hn
  rw [hr] at hnew hst
  have HST := Bx.mk hst
  have HNEW := Bx.mk hnew
  clear hr hnew hst
  go_enter Try.func21, Try.ntmps21
  go_wp2_with fail
  refine HNEW.out.mono ?_
  rintro e w1 ⟨rfl, hn⟩
  obtain ⟨S1, H1⟩ : ∃ S1, Bx (St w S1 r 5 [] w1) := ⟨_, ⟨HST.out w1 hn⟩⟩
  clear hn HST HNEW
  go_wp2_with fail
  refine (add_ok H1.out.pn (key := 8) (by decide) (by decide) (by decide) (by decide)).mono ?_
  rintro e w2 ⟨rfl, hd⟩
  obtain ⟨S2, H2⟩ : ∃ S2, Bx (St w S2 r 5 [(8, 0)] w2) := ⟨_, ⟨H1.out.did hd⟩⟩
  clear hd H1
  go_wp2_with fail
  refine (add_ok H2.out.pn (key := 3) (by decide) (by decide) (by decide) (by decide)).mono ?_
  rintro e w3 ⟨rfl, hd⟩
  obtain ⟨S3, H3⟩ : ∃ S3, Bx (St w S3 r 5 [(3, 0), (8, 0)] w3) := ⟨_, ⟨H2.out.did hd⟩⟩
  clear hd H2
  go_wp2_with fail
  refine (add_has H3.out.pn (key := 3) (by decide)).mono ?_
  rintro e w4 ⟨rfl, hb⟩
  have H4 := Bx.mk (H3.out.later hb)
  clear hb H3
  go_wp2_with fail
  refine (drop_none H4.out.pn (key := 4) (by decide)).mono ?_
  rintro e w5 ⟨rfl, hb⟩
  have H5 := Bx.mk (H4.out.later hb)
  clear hb H4
  go_wp2_with fail
  obtain ⟨Ha, ba⟩ := H5.out.lit [3, 8]
  obtain ⟨Hb, bb⟩ := Ha.lit [3]
  obtain ⟨Hc, bc⟩ := Hb.lit [3]
  simp only [World.size_alloc] at bb bc
  have bbl := bb.later ((Below.refl _ _).alloc (Nat.le_refl _) (.cells (I8 [3]).toArray 3))
  have bal := (ba.later ((Below.refl _ _).alloc (Nat.le_refl _) (.cells (I8 [3]).toArray 3))).later ((Below.refl _ _).alloc (Nat.le_refl _) (.cells (I8 [3]).toArray 3))
  have HD := Bx.mk (Hc.due (nw := 1) (nq := 1) (cw := 1) (cq := 1) (now := 2) bbl rfl (by decide) bc rfl (by decide) (by decide) rfl [(3, 7), (8, 0)] rfl)
  have HBA := Bx.mk bal
  clear Ha ba Hb bb Hc bc bbl bal H5
  refine HD.out.mono ?_
  rintro e w6 ⟨rfl, h6, hk6⟩
  have hb6 := HBA.out.keeps hk6
  have H6 := Bx.mk h6
  have B6 := Bx.mk hb6
  clear h6 hb6 hk6 HBA HD
  generalize w5.heap.size = bt at *
  go_wp2_with fail
  obtain ⟨Ha, ba⟩ := H6.out.lit [8]
  have bal := B6.out.later ((Below.refl _ _).alloc (Nat.le_refl _) (.cells (I8 [8]).toArray 3))
  have HD := Bx.mk (Ha.due (nw := 2) (nq := 1) (cw := 2) (cq := 1) (now := 4) bal rfl (by decide) ba rfl (by decide) (by decide) rfl [(3, 7), (8, 9)] rfl)
  have HBA := Bx.mk bal
  clear Ha ba bal H6 B6
  refine HD.out.mono ?_
  rintro e w7 ⟨rfl, h6, hk6⟩
  have hb6 := HBA.out.keeps hk6
  have H7 := Bx.mk h6
  have B7 := Bx.mk hb6
  clear h6 hb6 hk6 HBA HD
  go_wp2_with fail
  obtain ⟨Ha, ba⟩ := H7.out.lit [3]
  have bal := B7.out.later ((Below.refl _ _).alloc (Nat.le_refl _) (.cells (I8 [3]).toArray 3))
  have HD := Bx.mk (Ha.due (nw := 2) (nq := 1) (cw := 2) (cq := 1) (now := 7) bal rfl (by decide) ba rfl (by decide) (by decide) rfl [(3, 12), (8, 9)] rfl)
  clear Ha ba bal H7 B7
  refine HD.out.mono ?_
  rintro e w8 ⟨rfl, h6, hk6⟩
  have H8 := Bx.mk h6
  clear h6 hk6 HD
  go_wp2_with fail
  have HD := Bx.mk (H8.out.due (nw := 0) (nq := 0) (cw := 0) (cq := 0) (now := 8) (ws := []) (qs := []) (Aw := none) (Aq := none) RowAt.nil rfl (by decide) RowAt.nil rfl (by decide) (by decide) rfl [(3, 0), (8, 0)] rfl)
  clear H8
  refine HD.out.mono ?_
  rintro e w9 ⟨rfl, h6, hk6⟩
  have H9 := Bx.mk h6
  clear h6 hk6 HD
  go_wp2_with fail
  obtain ⟨Ha, ba⟩ := H9.out.lit [3]
  obtain ⟨Hb, bb⟩ := Ha.lit [3]
  simp only [World.size_alloc] at bb
  have bal := ba.later ((Below.refl _ _).alloc (Nat.le_refl _) (.cells (I8 [3]).toArray 3))
  have HD := Bx.mk (Hb.due (nw := 1) (nq := 1) (cw := 1) (cq := 1) (now := 9) bal rfl (by decide) bb rfl (by decide) (by decide) rfl [(3, 14), (8, 0)] rfl)
  clear Ha ba Hb bb bal H9
  refine HD.out.mono ?_
  rintro e w10 ⟨rfl, h6, hk6⟩
  have H10 := Bx.mk h6
  clear h6 hk6 HD
  go_wp2_with fail
  go_ret
  exact ⟨rfl, H10.out.below⟩
end Go.Proofs.Ytamcmhadodgalaa.pl
