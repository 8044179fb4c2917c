/-
  Given for the seat's laws: the function that keys hands back, when it is ranged over: each row's place and key. No condition but those of the theorem.
-/
import Derived.Test.YtpidjekabnnmcaaQRange
namespace Go.Proofs.Ytpidjekabnnmcaa.pl
open Go.RowKit Go.Shelf mem find pb reg
set_option linter.unusedVariables false
attribute [local go_sem] Oper.semAt_some

/-- a fact that the walk is to leave alone -/
structure Bx (p : Prop) : Prop where
  out : p
theorem Bx.mk' {p : Prop} (h : p) : Bx p := ⟨h⟩

def kat (K : List Int) (k : Nat) : Int := K.getD k 0
theorem kat_get {R : List (Int × Int)} {k : Nat} {x : Int × Int} (h : R[k]? = some x) : kat (R.map (·.1)) k = x.1 := by
  unfold kat
  rw [List.getD_eq_getElem?_getD, List.getElem?_map, h]
  rfl

theorem firm_drew {B : Nat} {R : World → Prop} (hR : Firm B R) {W : World} (hr : R W) : R W.drew := hR W _ ((KeepsOthers.drew W).from B) hr
theorem firm_alloc {B : Nat} {R : World → Prop} (hR : Firm B R) {W : World} (hr : R W) (o : Obj) : R (W.alloc o) := hR W _ ((KeepsOthers.alloc W o).from B) hr

set_option maxRecDepth 100000 in
set_option maxHeartbeats 2000000 in
theorem keys1_seq (F : Fence) (m : Nat) (hF : F.fn 67) (hro : F.round = none) (hm : 1 ≤ m) (B Bo r : Nat) (A : Option Addr) (n c g : Nat) (hn : n ≤ 64) (hA : 0 < n → A = some ⟨g, 0, none⟩) (K : List Int) (I Y : Nat → World → Prop) (Ix Fin : World → Prop)
    (hhead : ∀ W, I 0 W → W.cell? ⟨Bo, 0, none⟩ = some (.pointer (some ⟨r, 0, none⟩)) ∧ W.cell? ⟨r, 2, none⟩ = some (.slice A n c))
    (hrow : ∀ k W, I k W → k < n → ∃ nx, W.cell? ⟨g, k * 2, none⟩ = some (.int .i64 (kat K k)) ∧ W.cell? ⟨g, k * 2 + 1, none⟩ = some (.int .i64 nx) ∧ Y k (W.alloc (.cells #[.int .i64 (kat K k), .int .i64 nx] 103)))
    (hfin : ∀ W, I n W → Fin W) :
    SeqW F m Try.prog 67 #[.pointer (some ⟨Bo, 0, none⟩)] (fun k => #[.int .i64 (k : Int), .int .i64 (kat K k)]) B I Y Ix Fin := fun l R Rx W hR hRx hBW h0 hr hY => by
  have HS := Bx.mk hrow
  have HF := Bx.mk hfin
  have HYY := Bx.mk hY
  have HR := Bx.mk hR
  have H0 := Bx.mk h0
  have HR0 := Bx.mk hr
  have HA := Bx.mk hA
  obtain ⟨c1, c2⟩ := hhead W h0
  clear hhead hrow hfin hY hR hRx h0 hr hA
  refine callsIn_of_wp Try.func67 rfl hF ?_ hro
  simp only [Try.ntmps67, List.size_toArray, List.length_cons, List.length_nil, Nat.reduceAdd, Nat.reduceSub, Array.replicate_succ, Array.replicate_zero, List.push_toArray, List.append_toArray, List.nil_append, List.cons_append]
  gi_wp2
  gi_loopw [10] (fun s wr => ∃ (k : Nat), k ≤ n ∧ s = .int .i64 (k : Int) ∧ Bx (I k wr) ∧ Bx (R wr)) (fun s wr => n - (intOf s).toNat)
  case atStart => exact ⟨0, by omega, rfl, H0, HR0⟩
  case round =>
    clear H0 HR0 c1 c2
    obtain ⟨k, hk, rfl, hI, hRR⟩ := hrel
    by_cases hlt : k < n
    · obtain rfl := HA.out (by omega)
      obtain ⟨nx, d1, d2, hst⟩ := HS.out k wr hI.out hlt
      have hrr := firm_alloc HR.out hRR.out (.cells #[.int .i64 (kat K k), .int .i64 nx] 103)
      obtain ⟨fn, tmps, assign, body, hyy, hRd⟩ := HYY.out k _ hst hrr
      generalize kat K k = key at *
      clear hst hrr hI hRR
      gi_wp2
      refine hRd.mono ?_
      rintro e W3 (⟨rfl, hI3, hR3⟩ | ⟨rfl, hX3, hR3⟩)
      · have HI3 := Bx.mk hI3
        have HR3 := Bx.mk hR3
        clear hI3 hR3
        gi_wp2
        go_roundw
        case rel => exact ⟨k + 1, by omega, by go_num, HI3, HR3⟩
        case measure => (simp [intOf]) <;> omega
      · gi_wp2
        refine bodyPost_ret (results_none rfl _ _ _) rfl ?_
        exact ⟨⟨_, rfl⟩, .inr ⟨hX3, hR3⟩⟩
    · obtain rfl : k = n := by omega
      have hfin := HF.out wr hI.out
      have HFIN := Bx.mk hfin
      clear hfin hI
      gi_wp2
      go_end0
      exact ⟨⟨_, rfl⟩, .inl ⟨HFIN.out, hRR.out⟩⟩
end Go.Proofs.Ytpidjekabnnmcaa.pl
