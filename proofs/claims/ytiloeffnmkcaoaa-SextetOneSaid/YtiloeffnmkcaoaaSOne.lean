/-
  Given for the seat's laws: SextetOne at any bytes, number and byte. No condition.
-/
import Derived.Test.YtiloeffnmkcaoaaSAwake
namespace Go.Proofs.Ytiloeffnmkcaoaa.sx
open Go.RowKit mem
set_option linter.unusedVariables false

/-- a new row of bytes that bears the run-time's mark behind its last cell -/
def LiesM (w : World) (g : Nat) (cs : Array Value) : Prop := ∃ f, cs.size ≤ f ∧ w.heap[g]? = some (.cells cs 5 (f, f + 1))
section
variable {w w' : World} {g : Nat} {cs : Array Value}
theorem LiesM.cell (h : LiesM w g cs) (i : Nat) : w.cell? ⟨g, i, none⟩ = cs[i]? := by
  obtain ⟨f, _, h⟩ := h
  simp [World.cell?, h]
theorem LiesM.frozen (h : LiesM w g cs) {i : Nat} (hi : i < cs.size) : w.frozen? ⟨g, i, none⟩ = false := by
  obtain ⟨f, hf, h⟩ := h
  simp [World.frozen?, h]
  omega
theorem LiesM.set (h : LiesM w g cs) (i : Nat) (u : Value) : LiesM (w.setCell ⟨g, i, none⟩ u) g (cs.setIfInBounds i u) := by
  obtain ⟨f, hf, h⟩ := h
  refine ⟨f, by simpa using hf, ?_⟩
  simp [World.setCell, Array.getElem?_modify, h]
theorem LiesM.lt (h : LiesM w g cs) : g < w.heap.size := by
  obtain ⟨f, hf, h⟩ := h
  exact (Array.getElem?_eq_some_iff.1 h).1
end

/-- a text's bytes in a row of the call's own -/
theorem bytes_of (w : World) (E : Str) : ∃ cap w3 C, (convert 9 22 (.string (S E))).run Try.prog w = .ok (.slice (some ⟨w.heap.size, 0, none⟩) E.length cap) w3 ∧ Below w.heap.size w w3 ∧ LiesM w3 w.heap.size C ∧
    ∀ (j : Nat) (x : UInt8), E[j]? = some x → C[j]? = some (.int .u8 (x.toNat : Int)) := by
  have hconv := run_bytes_of_string (P := Try.prog) w 9 22 5 (S E) Try.underlying9 Try.underlying22 Try.underlying5
  generalize hcap : grownCap w (S E).size 0 5 = cap at hconv
  refine ⟨cap, _, bytesRow (S E) cap, by rw [S_size] at hconv; exact hconv, ((Still.drew1 w).below _).alloc (Nat.le_refl _) _, ⟨_, Nat.le_refl _, heap_alloc_new w.drew _⟩, fun j x hj => ?_⟩
  have hlt : j < E.length := (List.getElem?_eq_some_iff.1 hj).1
  unfold bytesRow
  rw [Array.getElem?_append_left (by simp [S, hlt])]
  simp [S, hj]
theorem text_of {w : World} {g : Nat} {C : Array Value} (h : LiesM w g C) {E : Str} (hE : ∀ (j : Nat) (x : UInt8), E[j]? = some x → C[j]? = some (.int .u8 (x.toNat : Int))) (h0 : 0 < E.length) (cap : Nat) :
    (convert 22 9 (.slice (some ⟨g, 0, none⟩) E.length cap)).run Try.prog w = .ok (.string (S E)) w := by
  rw [← ints_nums]
  exact run_convert_bytes_arg (P := Try.prog) w 22 5 Try.underlying22 Try.underlying5 g 0 E.length cap (ints E) (ints_len E) (fun i hi => by
    rw [Nat.zero_add, h.cell, hE i _ (List.getElem?_eq_getElem hi)]
    simp [ints, List.getD, hi]) 9 Try.underlying9

theorem q_rng (a : Int) (N : Nat) (h0 : 0 < N) (h1 : N ≤ 5000) : 0 ≤ wrap64 ((IntKind.u64.wrap a).tmod (N : Int)) ∧ wrap64 ((IntKind.u64.wrap a).tmod (N : Int)) < (N : Int) := by
  rw [IntKind.wrap_u64]
  have h : 0 ≤ a % 18446744073709551616 := by omega
  generalize a % 18446744073709551616 = x at *
  rw [Int.tmod_eq_emod_of_nonneg h]
  have h2 := Int.emod_nonneg x (show (N : Int) ≠ 0 by omega)
  have h3 := Int.emod_lt_of_pos x (show (0 : Int) < (N : Int) by omega)
  generalize x % (N : Int) = z at *
  unfold wrap64
  omega
theorem set_cells {C : Array Value} {E : Str} (hE : ∀ (j : Nat) (x : UInt8), E[j]? = some x → C[j]? = some (.int .u8 (x.toNat : Int))) (k : Nat) (y : UInt8) :
    ∀ (j : Nat) (x : UInt8), (E.set k y)[j]? = some x → (C.setIfInBounds k (.int .u8 (y.toNat : Int)))[j]? = some (.int .u8 (x.toNat : Int)) := fun j x hj => by
  by_cases hjk : k = j
  · subst hjk
    have hlt : k < E.length := by
      have := (List.getElem?_eq_some_iff.1 hj).1
      simpa using this
    rw [List.getElem?_set_self (by simpa using hlt)] at hj
    obtain rfl := Option.some.inj hj
    have hc := hE k _ (List.getElem?_eq_getElem hlt)
    have hcl : k < C.size := (Array.getElem?_eq_some_iff.1 hc).1
    simp [hcl]
  · rw [List.getElem?_set_ne hjk] at hj
    rw [Array.getElem?_setIfInBounds_ne hjk]
    exact hE j x hj

set_option maxHeartbeats 4000000 in
set_option maxRecDepth 100000 in
theorem one_walk {w : World} {A : Option Addr} {n c : Nat} {bs : List Int} (hs0 : Src w (fun g => g < w.heap.size) A n c bs) (at_ : Int) (ch : Int) (hch : 0 ≤ ch ∧ ch < 256) : Calls Try.prog 7 #[.slice A n c, .int .i64 at_, .int .u8 ch] w (True_ w) := by
  obtain ⟨b, rfl⟩ := ints_of hs0.rng
  obtain ⟨y, hy⟩ : ∃ y : UInt8, ch = (y.toNat : Int) := ⟨UInt8.ofNat ch.toNat, by simp; omega⟩
  subst hy
  have hs : Spell w (fun g => g < w.heap.size) A n c b := hs0
  have hbl := spell_len hs
  have HAW := Lib.hid (awake_any w)
  by_cases h3 : 3000 < n
  · have hn0 : ((n : Int) == 0) = false := beq_eq_false_iff_ne.2 (by omega)
    clear hs hs0 hbl
    go_enter Try.func7, Try.ntmps7
    go_wp2_with fail
    refine HAW.out.mono ?_
    rintro e w1 ⟨rfl, hb1⟩
    have HB1 := Lib.hid hb1
    clear hb1
    go_wp2_with fail
    go_ret
    exact ⟨rfl, HB1.out⟩
  · by_cases h0 : n = 0
    · subst h0
      clear hs hs0 hbl
      go_enter Try.func7, Try.ntmps7
      go_wp2_with fail
      refine HAW.out.mono ?_
      rintro e w1 ⟨rfl, hb1⟩
      have HB1 := Lib.hid hb1
      clear hb1
      go_wp2_with fail
      go_ret
      exact ⟨rfl, HB1.out⟩
    · have hn0 : ((n : Int) == 0) = false := beq_eq_false_iff_ne.2 (by omega)
      obtain ⟨E, hE⟩ : ∃ E, E = enc b := ⟨_, rfl⟩
      obtain ⟨N, hN⟩ : ∃ N, E.length = N := ⟨_, rfl⟩
      have hNs : N = size n := by rw [← hN, hE, enc_len, hbl]
      have hN4 : 4 ≤ N ∧ N ≤ 4004 := by rw [hNs]; unfold size; omega
      obtain ⟨hNl, hNh⟩ := hN4
      have hNz : ((N : Int) == 0) = false := beq_eq_false_iff_ne.2 (by omega)
      have HS := Lib.hid hs
      have HE := Lib.hid hE
      have HN := Lib.hid hN
      clear hs hs0 hbl hE hN hNs h0
      go_enter Try.func7, Try.ntmps7
      go_wp2_with fail
      refine HAW.out.mono ?_
      rintro e w1 ⟨rfl, hb1⟩
      have hen := encode_any ((HS.out.below hb1 (fun g hg => hg)).weak (fun g hg => Nat.lt_of_lt_of_le hg hb1.size)) (by omega)
      unfold EncTo at hen
      rw [← HE.out] at hen
      have HEN := Lib.hid hen
      have HB1 := Lib.hid hb1
      clear hb1 hen
      go_wp2_with fail
      refine HEN.out.mono ?_
      rintro e w2 ⟨rfl, hb2⟩
      obtain ⟨cap, w3, C, hcv, hb3, hlm, hcells⟩ := bytes_of w2 E
      have hb2' := HB1.out.trans (hb2.mono HB1.out.size)
      have HB3 := Lib.hid (hb2'.trans (hb3.mono hb2'.size))
      have HW2 := Lib.hid hb2'.size
      have HLM := Lib.hid hlm
      have HCELLS := Lib.hid hcells
      rw [HN.out] at hcv
      clear hb2 hb2' hb3 hlm hcells
      go_upto_region 9 with fail
      obtain ⟨hq0, hq1⟩ := q_rng at_ N (by omega) (by omega)
      generalize wrap64 ((IntKind.u64.wrap at_).tmod (N : Int)) = q at *
      obtain ⟨k, rfl⟩ : ∃ k : Nat, q = (k : Int) := ⟨q.toNat, by omega⟩
      have hkN : k < N := by omega
      obtain ⟨x, hx⟩ : ∃ x, E[k]? = some x := ⟨E[k]'(by rw [HN.out]; exact hkN), List.getElem?_eq_getElem _⟩
      have hcx := HCELLS.out k x hx
      have c0 : w3.cell? ⟨w2.heap.size, k, none⟩ = some (.int .u8 (x.toNat : Int)) := (HLM.out.cell k).trans hcx
      have f0 : w3.frozen? ⟨w2.heap.size, k, none⟩ = false := HLM.out.frozen (Array.getElem?_eq_some_iff.1 hcx).1
      have hlen : (E.set k y).length = N := by rw [List.length_set]; exact HN.out
      have hconv2 := text_of (HLM.out.set k (.int .u8 (y.toNat : Int))) (set_cells HCELLS.out k y) (by rw [hlen]; omega) cap
      rw [hlen] at hconv2
      have hb4 : Below w.heap.size w (w3.setCell ⟨w2.heap.size, k, none⟩ (.int .u8 (y.toNat : Int))) := HB3.out.setCell (p := ⟨w2.heap.size, k, none⟩) HW2.out _
      have HB4 := Lib.hid hb4
      have HD := Lib.hid (decode_any (E.set k y) (by rw [hlen]; omega) (w3.setCell ⟨w2.heap.size, k, none⟩ (.int .u8 (y.toNat : Int))))
      clear hcx hlen hb4 hcv
      by_cases hxy : x = y
      · subst hxy
        have hset : E.set k x = E := by
          obtain ⟨hlt, e⟩ := List.getElem?_eq_some_iff.1 hx
          rw [← e]
          exact List.set_getElem_self hlt
        have heq : ((x.toNat : Int) == (x.toNat : Int)) = true := by simp
        rw [hset] at HD hconv2
        clear hset hx
        go_wp2_with fail
        refine HD.out.mono ?_
        rintro e w5 (⟨d, A5, c5, hd, rfl, hm5⟩ | ⟨hd, _⟩)
        · have hdb : d = b := Option.some.inj (hd.uniq (show Is E (some b) from HE.out.symm))
          subst hdb
          have hb5 := HB4.out.trans (hm5.below.mono HB4.out.size)
          have hc1 := spell_str (own_spell hm5.own)
          have hc2 := spell_str (HS.out.below hb5 (fun g hg => hg))
          have hself := (str_eq d).1
          have HB5 := Lib.hid hb5
          clear hm5 hb5 hd
          go_wp2_with fail
          go_ret
          exact ⟨rfl, HB5.out⟩
        · exact absurd (hd.uniq (show Is E (some b) from HE.out.symm)) (by simp)
      · have heq : ((x.toNat : Int) == (y.toNat : Int)) = false := beq_eq_false_iff_ne.2 (fun e => hxy (UInt8.toNat_inj.1 (by omega)))
        have hne : E.set k y ≠ E := fun e => hxy (by
          have h1 : (E.set k y)[k]? = some x := by rw [e]; exact hx
          rw [List.getElem?_set_self (by rw [HN.out]; exact hkN)] at h1
          exact (Option.some.inj h1).symm)
        have HNE := Lib.hid hne
        clear hne hx
        go_wp2_with fail
        refine HD.out.mono ?_
        rintro e w5 (⟨d, A5, c5, hd, rfl, hm5⟩ | ⟨hd, rfl, hb5⟩)
        · have hdb : d ≠ b := fun e => HNE.out (by
            have h1 : enc d = E.set k y := hd
            rw [← h1, e]
            exact HE.out.symm)
          have hb5 := HB4.out.trans (hm5.below.mono HB4.out.size)
          have hc1 := spell_str (own_spell hm5.own)
          have hc2 := spell_str (HS.out.below hb5 (fun g hg => hg))
          have hself := (str_ne hdb).1
          have HB5 := Lib.hid hb5
          clear hm5 hb5 hd hdb hxy
          go_wp2_with fail
          go_ret
          exact ⟨rfl, HB5.out⟩
        · have HB5 := Lib.hid (HB4.out.trans (hb5.mono HB4.out.size))
          clear hb5 hd hxy
          go_wp2_with fail
          go_ret
          exact ⟨rfl, HB5.out⟩
end Go.Proofs.Ytiloeffnmkcaoaa.sx
