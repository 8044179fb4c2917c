/-
  Given for the seat's laws: which parents should be probed. No condition but those of the theorems.
-/
import Derived.Test.YtpidjekabnnmcaaHOps2
namespace Go.Proofs.Ytpidjekabnnmcaa.hp
open Go.RowKit mem find pb
set_option linter.unusedVariables false

def wnt (x : RD) (now : Int) : Bool := decide (bk.st x.br now = 2) && !x.br.tr
set_option maxHeartbeats 1000000 in
theorem rwanted_any {w : World} {b : Nat} {x : RD} (hl : Lies w b 79 (rcs x)) (now : Int) : Calls Try.prog 54 #[bp b, .int .i64 now] w fun e w' => e = .returned (.bool (wnt x now)) ∧ Below w.heap.size w w' := by
  have HL := bk.Bx.mk hl
  have c7 := hl.cell 7
  have c8 := hl.cell 8
  have c9 := hl.cell 9
  have c10 := hl.cell 10
  simp at c7 c8 c9 c10
  have HS := bk.Bx.mk (bk.state_any x.br now)
  clear hl
  have hw : ∃ v, v = wnt x now := ⟨_, rfl⟩
  obtain ⟨v, hv⟩ := hw
  rw [← hv]
  unfold wnt at hv
  unfold bk.Gv at *
  generalize bk.st x.br now = z at *
  have HV := bk.Bx.mk hv
  clear hv
  go_enter Try.func54, Try.ntmps54
  go_wp2_with fail
  refine (HS.out _).mono ?_
  rintro e w2 ⟨rfl, hg⟩
  have hb := hg.below
  have d10 := (HL.out.below hb HL.out.lt).cell 10
  simp at d10
  clear hg HS c7 c8 c9 c10 HL
  by_cases h2 : z = 2
  · subst h2
    go_wp2_with fail
    go_ret
    exact ⟨by rw [HV.out]; simp, hb⟩
  · have h3 : (z == 2) = false := by simpa using h2
    go_wp2_with fail
    go_ret
    exact ⟨by rw [HV.out]; simp [h2], hb⟩

/-- the keys of those that should be probed, up to a place -/
def wantsTo (R : List RD) (now : Int) (j : Nat) : List Int := ((R.take j).filter (fun x => wnt x now)).map (·.key)
def wants (R : List RD) (now : Int) : List Int := (R.filter (fun x => wnt x now)).map (·.key)
theorem wantsTo_len (R : List RD) (now : Int) (j : Nat) : (wantsTo R now j).length ≤ j := by
  unfold wantsTo
  rw [List.length_map]
  exact Nat.le_trans (List.length_filter_le _ _) (by rw [List.length_take]; omega)
theorem wantsTo_succ {R : List RD} {now : Int} {j : Nat} {x : RD} (h : R[j]? = some x) : wantsTo R now (j + 1) = wantsTo R now j ++ (if wnt x now then [x.key] else []) := by
  unfold wantsTo
  rw [List.take_add_one, h]
  simp only [Option.toList_some, List.filter_append, List.map_append]
  congr 1
  cases hw : wnt x now <;> simp [hw]
theorem wantsTo_all (R : List RD) (now : Int) : wantsTo R now R.length = wants R now := by simp [wantsTo, wants]

/-- a row of numbers of the call's own -/
structure Own8 (w wr : World) (v : Value) (xs : List Int) : Prop where
  own : wr.ownsRow w.heap.size 3 1 v xs.length (pl.I8 xs)
  below : Below w.heap.size w wr
theorem Own8.start (w : World) : Own8 w w (.slice none 0 0) [] := ⟨World.ownsRow_nil w _ _ _, Below.refl _ _⟩
theorem Own8.fresh {w wr w2 : World} {v : Value} {xs : List Int} (h : Own8 w wr v xs) (hb : Below wr.heap.size wr w2) : Own8 w w2 v xs :=
  ⟨pl.own_below h.own hb, h.below.trans (hb.mono h.below.size)⟩
theorem Own8.push {w wr : World} {v : Value} {xs : List Int} (h : Own8 w wr v xs) (key : Int) (hn : xs.length ≤ 1000) :
    ∃ A' c' W', (Builtin.append_ #[47, 47] 47 #[v, .slice (some ⟨wr.heap.size, 0, none⟩) 1 1]).run Try.prog (wr.alloc (.cells #[.int .i64 key] 3)) = .ok (.slice A' (xs.length + 1) c') W' ∧ Own8 w W' (.slice A' (xs.length + 1) c') (xs ++ [key]) ∧ Below wr.heap.size wr (wr.alloc (.cells #[.int .i64 key] 3)) ∧
      (∀ k, k < wr.heap.size → v.ownBlock ≠ some k → W'.heap[k]? = wr.heap[k]?) ∧ wr.heap.size ≤ W'.heap.size := by
  have hb : Below wr.heap.size wr (wr.alloc (.cells #[.int .i64 key] 3)) := (Below.refl _ wr).alloc (Nat.le_refl _) _
  have h1 := h.fresh hb
  obtain ⟨A', c', W', hr, ho, hg⟩ := pl.append_int h1.own wr.heap.size key (Lies.new wr _ _) hn h1.below.size
  refine ⟨A', c', W', hr, ⟨by simpa using ho, ?_⟩, hb, fun k hk hne => (hg.block k (by simp; omega) (fun e => hne e.symm)).trans (hb.block k hk), Nat.le_trans hb.size hg.size⟩
  have k1 : Keep w.heap.size (fun _ => False) w (wr.alloc (.cells #[.int .i64 key] 3)) := Keep.of_below h1.below _
  exact (k1.grown hg h1.below.size (fun k e => .inl (pl.own_cell h1.own e).1)).below (Nat.le_refl _) (fun _ _ hf => hf)

section
variable {w : World} {S : Nat → Prop} {r c q : Nat} {D : HD} {A : Option Addr} {bs : List Nat}
set_option maxRecDepth 100000 in
set_option maxHeartbeats 4000000 in
theorem wanted_any (h : Hx w S r D A c q bs) (hs : D.R.length ≤ 16) : Calls Try.prog 31 #[bp r] w fun e w' => ∃ A' c', e = .returned (.slice A' (wants D.R D.now).length c') ∧ Own8 w w' (.slice A' (wants D.R D.now).length c') (wants D.R D.now) := by
  have HH := bk.Bx.mk h
  have HLN := bk.Bx.mk hs
  have HLEN := bk.Bx.mk h.len
  have c4 := h.hd.cell 4
  simp at c4
  obtain ⟨n, hn⟩ : ∃ n, D.R.length = n := ⟨_, rfl⟩
  have HN := bk.Bx.mk hn
  rw [hn] at c4 hs
  have HF : bk.Bx (∀ (e : Ending) (w' : World), (∃ A' c', e = .returned (.slice A' (wantsTo D.R D.now n).length c') ∧ Own8 w w' (.slice A' (wantsTo D.R D.now n).length c') (wantsTo D.R D.now n)) → ∃ A' c', e = .returned (.slice A' (wants D.R D.now).length c') ∧ Own8 w w' (.slice A' (wants D.R D.now).length c') (wants D.R D.now)) := ⟨by
    intro e w' hh
    rwa [← hn, wantsTo_all] at hh⟩
  refine Calls.mono ?_ HF.out
  clear HF h hn
  obtain ⟨ks, hks⟩ : ∃ ks : Nat → List Int, ks = wantsTo D.R D.now := ⟨_, rfl⟩
  rw [← hks]
  have HK := bk.Bx.mk hks
  clear hks
  go_enter Try.func31, Try.ntmps31
  go_wp2_with fail
  go_loopw [3, 11] (fun s3 s11 wr => ∃ (j : Nat) (A' : Option Addr) (c' : Nat), j ≤ n ∧ s11 = .int .i64 j ∧ s3 = .slice A' (ks j).length c' ∧ bk.Bx (Own8 w wr (.slice A' (ks j).length c') (ks j))) (fun _ s11 _ => n - (intOf s11).toNat)
  case atStart =>
    have e0 : ks 0 = [] := by rw [HK.out]; rfl
    exact ⟨0, none, 0, by omega, rfl, by rw [e0]; rfl, ⟨by rw [e0]; exact Own8.start w⟩⟩
  case round =>
    obtain ⟨j, A', c', hj, rfl, rfl, ho⟩ := hrel
    by_cases hjn : j < n
    · obtain ⟨x, hx⟩ : ∃ x, D.R[j]? = some x := ⟨_, List.getElem?_eq_getElem (by rw [HN.out]; exact hjn)⟩
      have hb := ho.out.below
      have h2 := HH.out.below hb
      obtain ⟨b, hbj, hl, _⟩ := h2.recs.get hx
      obtain ⟨g, hA, hg, _, hc⟩ := h2.row.cell (by rw [HLEN.out, HN.out]; omega)
      have cj := hc j b hbj
      have c1 := h2.hd.cell 1
      simp at c1
      have HL := bk.Bx.mk hl
      have KW := bk.Bx.mk (rwanted_any hl D.now)
      have hS := wantsTo_succ (now := D.now) hx
      rw [← HK.out] at hS
      have HS := bk.Bx.mk hS
      have HKL := bk.Bx.mk (show (ks j).length ≤ 1000 by rw [HK.out]; have := wantsTo_len D.R D.now j; omega)
      subst hA
      clear hx hb h2 hbj hg hc hl hS
      go_wp2_with fail
      refine KW.out.mono ?_
      rintro e w2 ⟨rfl, hb2⟩
      have hl2 := HL.out.below hb2 HL.out.lt
      have d0 := hl2.cell 0
      simp at d0
      have HO2 := bk.Bx.mk (ho.out.fresh hb2)
      clear hb2 hl2 KW HL cj c1
      cases hw : wnt x D.now with
      | true =>
        obtain ⟨A2, c2, W2, hr, ho2, _⟩ := HO2.out.push x.key HKL.out
        have HR := bk.Bx.mk hr
        have e2 : ks (j + 1) = ks j ++ [x.key] := by rw [HS.out, hw]; rfl
        have e3 : (ks (j + 1)).length = (ks j).length + 1 := by rw [e2]; simp
        have HO3 : bk.Bx (Own8 w W2 (.slice A2 (ks (j + 1)).length c2) (ks (j + 1))) := ⟨by rw [e3, e2]; exact ho2⟩
        have HE3 := bk.Bx.mk e3
        clear hr ho2 e2 e3 hw
        go_wp2_with (at_builtin; refine wpList_append_eq rfl _ _ 47 47 rfl rfl rfl rfl HR.out ?_)
        go_roundw
        case rel => exact ⟨j + 1, A2, c2, by omega, by first | rfl | simp, by rw [HE3.out], HO3⟩
        case measure => simp [intOf]; omega
      | false =>
        have e2 : ks (j + 1) = ks j := by rw [HS.out, hw]; simp
        have HE2 := bk.Bx.mk e2
        clear e2 hw
        go_wp2_with fail
        go_roundw
        case rel => exact ⟨j + 1, A', c', by omega, by first | rfl | simp, by rw [HE2.out], ⟨by rw [HE2.out]; exact HO2.out⟩⟩
        case measure => simp [intOf]; omega
    · obtain rfl : j = n := by omega
      go_wp2_with fail
      go_ret
      exact ⟨A', c', rfl, ho.out⟩
end
end Go.Proofs.Ytpidjekabnnmcaa.hp
