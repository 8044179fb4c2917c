/-
  Given for the seat's laws: a new record. No condition but those of the theorems.
-/
import Derived.Test.YtpidjekabnnmcaaHGrow
import Derived.StillTailTactics
namespace Go.Proofs.Ytpidjekabnnmcaa.hp
open Go.RowKit mem find pb
set_option linter.unusedVariables false

abbrev pcs (k : PK) : Array Value := #[.string k.nm, .int .u8 k.kd, .string k.tx, .int .i64 k.po, .int .u8 k.pr]
def newR (key : Int) (who : PK) : RD := ⟨key, who, 0, bk.zb⟩
def HD.begin (D : HD) (who : PK) : HD := { D with last := D.last + 1, R := D.R ++ [newR (D.last + 1) who], Q := pb.ins (D.last + 1) D.Q }
/-- what begin leaves -/
structure BegPost (S : Nat → Prop) (r : Nat) (D : HD) (who : PK) (q : Nat) (bs : List Nat) (w : World) (e : Ending) (w' : World) : Prop where
  eq : e = .returned (.tuple #[])
  ex : ∃ A' c' b, Hx w' (fun g => S g ∨ w.heap.size ≤ g) r (D.begin who) A' c' q (bs ++ [b]) ∧ w.heap.size ≤ b
  keep : Keep w.heap.size S w w'
section
variable {w : World} {S : Nat → Prop} {r c q : Nat} {D : HD} {A : Option Addr} {bs : List Nat}
set_option maxRecDepth 100000 in
set_option maxHeartbeats 8000000 in
theorem begin_any (h : Hx w S r D A c q bs) (who : PK) (hs : D.R.length ≤ 1000) (l0 : 0 ≤ D.last) (l1 : D.last < 1099511627775) (hk : ¬ idx (D.last + 1) D.Q < D.Q.length) (hQ : D.Q.length < 64) :
    Calls Try.prog 48 #[bp r, .agg (pcs who)] w (BegPost S r D who q bs w) := by
  have hmix : Try.prog.follows .mixedOrders = true := by kernel_rfl
  have hwr : IntKind.i64.wrap (D.last + 1) = D.last + 1 := IntWalk.i64_in _ (by omega)
  -- the world, step by step
  have hb0 : Below w.heap.size w (w.alloc (.cells (pcs who) 77)) := (Below.refl _ w).alloc (Nat.le_refl _) _
  have h0 := h.below hb0
  obtain ⟨h1, k1⟩ := h0.setLast (D.last + 1)
  have hlw := (Lies.new w 77 (pcs who)).far (p := ⟨r, 5, none⟩) (by show w.heap.size ≠ r; have := h.hd.lt; omega) (.int .i64 (D.last + 1))
  have e5 := h0.hd.cell 5
  have f5 := h0.hd.frozen 5
  simp at e5
  obtain ⟨w0, hw0⟩ : ∃ w0, w.alloc (.cells (pcs who) 77) = w0 := ⟨_, rfl⟩
  have hsz0 : w0.heap.size = w.heap.size + 1 := by rw [← hw0]; simp
  rw [hw0] at h1 k1 hlw e5 f5 hb0
  obtain ⟨w1, hw1⟩ : ∃ w1, w0.setCell ⟨r, 5, none⟩ (.int .i64 (D.last + 1)) = w1 := ⟨_, rfl⟩
  have hsz1 : w1.heap.size = w.heap.size + 1 := by rw [← hw1, ← hsz0]; simp [World.setCell]
  rw [hw1] at h1 k1 hlw
  have hb2 : Below w1.heap.size w1 (w1.drew.alloc (.cells (rcs (newR (D.last + 1) who)) 79)) := ((Below.refl _ w1).drew).alloc (Nat.le_refl _) _
  have h2 := h1.below hb2
  have hl2 : Lies (w1.drew.alloc (.cells (rcs (newR (D.last + 1) who)) 79)) w1.heap.size 79 (rcs (newR (D.last + 1) who)) := Lies.new w1.drew _ _
  have hnb : w1.heap.size ∉ bs := fun hm => by
    obtain ⟨x, hx⟩ := h1.recs.lies hm
    have := hx.lt
    omega
  obtain ⟨A', c', W', hr, hf, hc4, hx3, k3⟩ := h2.grow hl2 hnb hs
  have g4 := h1.hd.cell 4
  have g5 := h1.hd.cell 5
  simp at g4 g5
  have z0 := hlw.cell 0
  have z1 := hlw.cell 1
  have z2 := hlw.cell 2
  have z3 := hlw.cell 3
  have z4 := hlw.cell 4
  simp at z0 z1 z2 z3 z4
  have HAP := bk.Bx.mk hr
  have HW0 := bk.Bx.mk hw0
  have HW1 := bk.Bx.mk hw1
  have HX3 := bk.Bx.mk hx3
  have HKP : bk.Bx (Keep w.heap.size S w (W'.setCell ⟨r, 4, none⟩ (.slice A' (D.R.length + 1) c'))) := ⟨by
    have q1 := (Keep.of_below hb0 S).trans (k1.mono (by omega) (fun _ _ e => e))
    have q2 : Keep w.heap.size S w (w1.drew.alloc (.cells (rcs (newR (D.last + 1) who)) 79)) := q1.trans (Keep.of_below (hb2.mono (by omega)) S)
    exact q2.trans (k3.mono (by have := hb2.size; omega) (fun _ _ e => e))⟩
  have HSZ := bk.Bx.mk hsz1
  have HH := bk.Bx.mk h
  have HQ := bk.Bx.mk hQ
  have HK := bk.Bx.mk hk
  have HL := bk.Bx.mk (show 1 ≤ D.last + 1 ∧ D.last + 1 ≤ 1099511627775 by omega)
  have e2s : w1.drew.heap.size = w1.heap.size := rfl
  clear h h0 h1 k1 hlw hb0 hb2 h2 hl2 hnb hr hx3 k3 hw1 hQ hk
  obtain ⟨n, hn⟩ : ∃ n, D.R.length = n := ⟨_, rfl⟩
  rw [hn] at g4 HAP HX3 HKP hc4
  have HN := bk.Bx.mk hn
  clear hn hs l0 l1
  go_enter Try.func48, Try.ntmps48
  go_wp2_with fail
  rw [HW1.out]
  have es : (w1.drew.alloc (.cells (rcs (newR (D.last + 1) who)) 79)).heap.size = w1.heap.size + 1 := by simp
  rw [es] at HAP HX3
  have hrc : rcs (newR (D.last + 1) who) = #[.int .i64 (D.last + 1), .string who.nm, .int .u8 who.kd, .string who.tx, .int .i64 who.po, .int .u8 who.pr, .int .u16 0, .bool false, .int .i64 0, .int .i64 0, .bool false] := rfl
  rw [hrc] at HAP
  have hblt : w.heap.size < w1.heap.size := by rw [hsz1]; omega
  have hrl : r < w1.heap.size := by rw [hsz1]; have := HH.out.hd.lt; omega
  clear es hrc HW0 HW1 e5 f5 hsz0 hsz1
  go_region_law (refine step_append_eq rfl _ _ 32 32 rfl rfl (by simp [Act.eval]) (by simp [Act.eval]) HAP.out ?_)
  all_goals
    clear hf hc4 g4 g5 z0 z1 z2 z3 z4 HAP e2s
    have m6 := HX3.out.hd.cell 6
    have m5 := HX3.out.hd.cell 5
    simp at m6 m5
    have HAD := bk.Bx.mk (fun W (hW : Below (W'.setCell ⟨r, 4, none⟩ (.slice A' (n + 1) c')).heap.size (W'.setCell ⟨r, 4, none⟩ (.slice A' (n + 1) c')) W) => pl.add_ok (HX3.out.below hW).pn' (key := D.last + 1) HK.out HL.out.1 HL.out.2 HQ.out)
    generalize W'.setCell ⟨r, 4, none⟩ (.slice A' (n + 1) c') = w5 at *
    go_wp2_with fail
    go_still_tail 8, hmix
    change wpList _ _ _ _ _ w5.drew
    have hbd : Below w5.heap.size w5 w5.drew := (Below.refl _ _).drew
    have HAD2 := bk.Bx.mk (HAD.out _ hbd)
    have HX6 := bk.Bx.mk (HX3.out.below hbd)
    have HK6 : bk.Bx (Keep w.heap.size S w w5.drew) := ⟨HKP.out.trans ((Keep.of_below hbd S).mono HKP.out.size (fun _ _ e => e))⟩
    clear HAD HX3 HKP hbd m5 m6
    generalize w5.drew = w6 at *
    go_wp2_with fail
    refine HAD2.out.mono ?_
    rintro e w7 ⟨rfl, hp7, hk7⟩
    have hx7 := (HX6.out.mono (S' := fun g => S g ∨ w.heap.size ≤ g) (fun g hg => by rcases hg with h1 | h1 | h1; exact .inl h1; exact .inr (by omega); exact .inr (by omega))).setPlan (S' := fun g => S g ∨ w.heap.size ≤ g) (hp7.mono (fun g hg => by
        rcases hg with h1 | h1
        · rcases h1.1 with h2 | h2 | h2
          · exact .inl h2
          · exact .inr (by omega)
          · exact .inr (by omega)
        · exact .inr (by have := HK6.out.size; omega))) (hk7.mono (Nat.le_refl _) (fun g _ hg => ⟨by
          rcases hg.1 with h2 | h2 | h2
          · exact .inl h2
          · exact .inr (by omega)
          · exact .inr (by omega), hg.2⟩)) (fun g hg => hg)
    have hk8 : Keep w.heap.size S w w7 := HK6.out.trans (hk7.mono HK6.out.size (fun g hg hs => by
      rcases hs.1 with h2 | h2 | h2
      · exact h2
      · omega
      · omega))
    have HF : bk.Bx (BegPost S r D who q bs w (.returned (.tuple #[])) w7) := ⟨⟨rfl, ⟨A', c', w1.heap.size, hx7, by omega⟩, hk8⟩⟩
    clear hp7 hk7 hx7 hk8 HAD2 HX6 HK6 HK HL HQ HH
    go_wp2_with fail
    refine bodyPost_ret (v := .tuple #[]) (by simp [results, Try.results48, go_sem]) rfl ?_
    exact HF.out
end
end Go.Proofs.Ytpidjekabnnmcaa.hp
