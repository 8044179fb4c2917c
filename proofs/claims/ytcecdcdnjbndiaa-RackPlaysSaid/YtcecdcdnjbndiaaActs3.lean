/-
  Given for the seat's laws: a list of acts as it lies in memory, the function near over it, and the state between two acts. No condition but those of the theorems.
-/
import Derived.Test.YtcecdcdnjbndiaaIDs2
import Derived.Test.YtcecdcdnjbndiaaGive
namespace Go.Proofs.Ytcecdcdnjbndiaa.rack
open Go.RowKit mem find
set_option linter.unusedVariables false

/-- an act as it lies in memory -/
structure ActD where
  kind : Int
  id : Int
  v : Int

/-- the acts lie one behind the other, three cells each -/
def ActsAt (w : World) (A : Option Addr) (acts : List ActD) : Prop :=
  0 < acts.length → ∃ b off, A = some ⟨b, off, none⟩ ∧ b < w.heap.size ∧ ∀ (i : Nat) (x : ActD), acts[i]? = some x →
    w.cell? ⟨b, off + i * 3, none⟩ = some (.int .u8 x.kind) ∧ w.cell? ⟨b, off + i * 3 + 1, none⟩ = some (.int .i64 x.id) ∧ w.cell? ⟨b, off + i * 3 + 2, none⟩ = some (.int .i64 x.v)
theorem ActsAt.below {w w' : World} {A : Option Addr} {acts : List ActD} (h : ActsAt w A acts) (hb : Below w.heap.size w w') : ActsAt w' A acts := by
  intro hp
  obtain ⟨b, off, hA, hlt, hc⟩ := h hp
  refine ⟨b, off, hA, Nat.lt_of_lt_of_le hlt hb.size, fun i x hx => ?_⟩
  obtain ⟨h1, h2, h3⟩ := hc i x hx
  exact ⟨(hb.cell (p := ⟨b, off + i * 3, none⟩) hlt).trans h1, (hb.cell (p := ⟨b, off + i * 3 + 1, none⟩) hlt).trans h2, (hb.cell (p := ⟨b, off + i * 3 + 2, none⟩) hlt).trans h3⟩
/-- the kinds are bytes -/
def ActsOk (acts : List ActD) : Prop := ∀ (i : Nat) (x : ActD), acts[i]? = some x → 0 ≤ x.kind ∧ x.kind ≤ 255

def nearB (acts : List ActD) : Bool := decide (acts.length ≤ 150) && acts.all fun x => decide (0 ≤ x.id) && decide (x.id ≤ 400)
theorem nearB_len {acts : List ActD} (h : nearB acts = true) : acts.length ≤ 150 := by
  unfold nearB at h
  simp only [Bool.and_eq_true, decide_eq_true_eq] at h
  exact h.1
theorem nearB_each {acts : List ActD} (h : nearB acts = true) {i : Nat} {x : ActD} (hi : acts[i]? = some x) : 0 ≤ x.id ∧ x.id ≤ 400 := by
  unfold nearB at h
  simp only [Bool.and_eq_true, decide_eq_true_eq, List.all_eq_true] at h
  exact h.2 x (List.mem_of_getElem? hi)
theorem nearB_true {acts : List ActD} (h0 : acts.length ≤ 150) (h : ∀ (i : Nat) (x : ActD), acts[i]? = some x → 0 ≤ x.id ∧ x.id ≤ 400) : nearB acts = true := by
  unfold nearB
  simp only [Bool.and_eq_true, decide_eq_true_eq, List.all_eq_true]
  refine ⟨h0, fun x hx => ?_⟩
  obtain ⟨i, hi⟩ := List.getElem?_of_mem hx
  exact h i x hi
theorem nearB_no {acts : List ActD} {i : Nat} {x : ActD} (hi : acts[i]? = some x) (h : x.id < 0 ∨ 400 < x.id) : nearB acts = false := by
  rcases hn : nearB acts with _ | _
  · rfl
  · have := nearB_each hn hi; omega
theorem nearB_long {acts : List ActD} (h : 150 < acts.length) : nearB acts = false := by
  rcases hn : nearB acts with _ | _
  · rfl
  · have := nearB_len hn; omega

set_option maxHeartbeats 1000000 in
theorem near_any (A : Option Addr) (c : Nat) (acts : List ActD) (w : World) (hm : acts.length ≤ maxLen) (ha : ActsAt w A acts) :
    Calls Try.prog 24 #[.slice A acts.length c] w fun e w' => e = .returned (.bool (nearB acts)) ∧ w = w' := by
  unfold maxLen at hm
  by_cases h150 : 150 < acts.length
  · have HG := Lib.hid (nearB_long h150)
    clear ha
    go_enter Try.func24, Try.ntmps24
    go_wp2
    go_ret
    exact ⟨by rw [HG.out]; rfl, rfl⟩
  · generalize hlen : acts.length = len at *
    have HL := Lib.hid hlen
    clear hlen
    go_enter Try.func24, Try.ntmps24
    go_wp2
    go_loop [3] (fun i => ∃ k : Nat, k ≤ len ∧ i = .int .i64 k ∧ Hid (∀ (j : Nat) (x : ActD), j < k → acts[j]? = some x → 0 ≤ x.id ∧ x.id ≤ 400)) (fun i => len - (intOf i).toNat)
    case atStart => exact ⟨0, Nat.zero_le _, rfl, fun j x hj => absurd hj (by omega)⟩
    case round =>
      obtain ⟨k, hk, rfl, hbelow⟩ := hrel
      by_cases hlt : k < len
      · obtain ⟨b, off, rfl, _, hc⟩ := ha (by rw [HL.out]; omega)
        obtain ⟨x, hx⟩ : ∃ x, acts[k]? = some x := ⟨_, List.getElem?_eq_getElem (by rw [HL.out]; exact hlt)⟩
        have h2 := (hc k x hx).2.1
        have HX := Lib.hid hx
        have HC := Lib.hid hc
        clear hx hc ha
        by_cases h1 : x.id < 0
        · go_wp2
          go_ret
          exact ⟨by rw [nearB_no HX.out (.inl h1)]; rfl, rfl⟩
        · by_cases h3 : 400 < x.id
          · go_wp2
            go_ret
            exact ⟨by rw [nearB_no HX.out (.inr h3)]; rfl, rfl⟩
          · go_wp2
            go_round
            case rel =>
              refine ⟨k + 1, by omega, by go_num, fun j y hj hy => ?_⟩
              by_cases hjk : j = k
              · subst hjk
                have := HX.out
                rw [hy] at this
                cases this
                omega
              · exact hbelow.out j y (by omega) hy
            case measure => simp [intOf]; omega
      · go_wp2
        go_ret
        have HF : nearB acts = true := nearB_true (by rw [HL.out]; omega) fun i x hi => hbelow.out i x (by have := (List.getElem?_eq_some_iff.1 hi).1; rw [HL.out] at this; omega) hi
        exact ⟨by rw [HF]; rfl, rfl⟩

/-! ### counting the own ids that are ahead -/
def cnt (R : List (Int × Int)) (a : Int) : Nat := R.countP fun x => decide (a ≤ x.1)
theorem cnt_le (R : List (Int × Int)) (a : Int) : cnt R a ≤ R.length := List.countP_le_length
theorem cnt_anti (R : List (Int × Int)) {a b : Int} (h : a ≤ b) : cnt R b ≤ cnt R a := by
  refine List.countP_mono_left fun x _ hx => ?_
  simp only [decide_eq_true_eq] at hx ⊢
  omega
theorem cnt_cons (x : Int × Int) (R : List (Int × Int)) (a : Int) : cnt (x :: R) a = cnt R a + if a ≤ x.1 then 1 else 0 := by
  unfold cnt
  rw [List.countP_cons]
  simp
theorem cnt_step : ∀ {R : List (Int × Int)} {a b : Int}, Has R a → a < b → cnt R b + 1 ≤ cnt R a
  | [], a, b, ⟨v, hv⟩, _ => by simp at hv
  | x :: R, a, b, ⟨v, hv⟩, hab => by
    rw [cnt_cons, cnt_cons]
    rcases List.mem_cons.1 hv with e | hv
    · rw [← e, if_neg (by show ¬ b ≤ a; omega), if_pos (by show a ≤ a; omega)]
      have := cnt_anti R (Int.le_of_lt hab)
      omega
    · have := cnt_step (R := R) ⟨v, hv⟩ hab
      split <;> split <;> omega
theorem cnt_used {R : List (Int × Int)} {nx st : Int} (hst : 1 ≤ st) : ∀ q : Nat, (∀ j : Nat, j < q → Has R (nx + (j : Int) * st)) → cnt R (nx + (q : Int) * st) + q ≤ cnt R nx
  | 0, _ => by simp
  | q + 1, h => by
    have h1 := cnt_used hst q (fun j hj => h j (by omega))
    have h2 := cnt_step (h q (by omega)) (show nx + (q : Int) * st < nx + ((q + 1 : Nat) : Int) * st by
      rw [show ((q + 1 : Nat) : Int) = (q : Int) + 1 by omega, Int.add_mul]; omega)
    omega
theorem cnt_insR (x : Int × Int) (R : List (Int × Int)) (a : Int) : cnt (insR x R) a = cnt R a + if a ≤ x.1 then 1 else 0 := by
  rw [← cnt_cons]
  exact (insR_perm x R).countP_eq _
theorem cnt_delR (id : Int) (R : List (Int × Int)) (a : Int) : cnt (delR id R) a ≤ cnt R a := List.Sublist.countP_le List.filter_sublist
theorem cnt_setR (id v : Int) (R : List (Int × Int)) (a : Int) : cnt (setR id v R) a = cnt R a := by
  unfold cnt setR
  rw [List.countP_map]
  refine List.countP_congr fun x _ => ?_
  simp only [Function.comp]
  split <;> simp_all

/-! ### the state between two acts -/
structure St (w : World) (S : Nat → Prop) (r N : Nat) (nx st : Int) (R : List (Int × Int)) (W : World) : Prop where
  rk : Rk W S r N nx st R
  lt : ∀ g, S g → w.heap.size ≤ g ∧ g < W.heap.size
  below : Below w.heap.size w W
section
variable {w W W' : World} {S : Nat → Prop} {r N : Nat} {nx nx' st : Int} {R R' : List (Int × Int)}
theorem St.later (h : St w S r N nx st R W) (hb : Below W.heap.size W W') : St w S r N nx st R W' :=
  ⟨h.rk.below hb, fun g e => ⟨(h.lt g e).1, Nat.lt_of_lt_of_le (h.lt g e).2 hb.size⟩, h.below.trans (hb.mono h.below.size)⟩
theorem St.did (h : St w S r N nx st R W) (hd : Did S r N nx' st R' W W') : St w (fun g => (S g ∨ W.heap.size ≤ g) ∧ g < W'.heap.size) r N nx' st R' W' :=
  ⟨hd.rk.bounded, fun g e => ⟨by rcases e.1 with e1 | e1; exact (h.lt g e1).1; exact Nat.le_trans h.below.size e1, e.2⟩,
    h.below.trans (hd.keep.below h.below.size (fun k hk e => by have := (h.lt k e).1; omega))⟩
theorem St.acts {A : Option Addr} {acts : List ActD} (h : St w S r N nx st R W) (ha : ActsAt w A acts) : ActsAt W A acts := ha.below h.below
theorem St.made {w1 : World} (hn : News w1 w1.heap.size N nx st W) (hb : Below w.heap.size w w1) : St w (fun g => w1.heap.size ≤ g ∧ g < W.heap.size) w1.heap.size N nx st [] W :=
  ⟨hn.rk.bounded, fun g e => ⟨Nat.le_trans hb.size e.1, e.2⟩, hb.trans (hn.below.mono hb.size)⟩

/-- what Give leaves, where the own ids are far from their end -/
structure GiveSt (w : World) (S : Nat → Prop) (r N : Nat) (nx st v : Int) (R : List (Int × Int)) (W : World) (e : Ending) (W' : World) : Prop where
  ex : ∃ (q : Nat) (S' : Nat → Prop), q ≤ R.length ∧ (∀ j : Nat, j < q → Has R (nx + (j : Int) * st)) ∧ ¬ Has R (nx + (q : Int) * st) ∧ e = .returned (.tuple #[.int .i64 (nx + (q : Int) * st), .int .i64 0]) ∧
    St w S' r N (nx + ((q + 1 : Nat) : Int) * st) st (insR (nx + (q : Int) * st, v) R) W' ∧ Keep W.heap.size S W W' ∧ cnt (insR (nx + (q : Int) * st, v) R) (nx + ((q + 1 : Nat) : Int) * st) + q ≤ cnt R nx

theorem give_st (h : St w S r N nx st R W) (hf : R.length < N) (n1 : 1 ≤ nx) (n2 : nx ≤ 1000000) (n3 : 1 ≤ st) (n4 : st ≤ 1000) (v : Int) :
    Calls Try.prog 9 #[.pointer (some ⟨r, 0, none⟩), .int .i64 v] W (GiveSt w S r N nx st v R W) := by
  have h64 := h.rk.size
  refine (give_any h.rk hf n1 (by omega) n3 n4 v).mono ?_
  rintro e W' ⟨q, hu, hh⟩
  have hcu := cnt_used n3 q (fun j hj => (hu j hj).2)
  have hcl := cnt_le R nx
  have hq : q ≤ R.length := by omega
  have hqs : (q : Int) * st ≤ 64 * 1000 := Int.mul_le_mul (by omega) n4 (by omega) (by omega)
  rcases hh with ⟨h1, h2, rfl, hd⟩ | ⟨h1, _⟩
  · refine ⟨q, _, hq, fun j hj => (hu j hj).2, h2, rfl, h.did hd, hd.keep, ?_⟩
    have hlt : nx + (q : Int) * st < nx + ((q + 1 : Nat) : Int) * st := by rw [show ((q + 1 : Nat) : Int) = (q : Int) + 1 by omega, Int.add_mul]; omega
    rw [cnt_insR, if_neg (by show ¬ _ ≤ nx + (q : Int) * st; omega)]
    have := cnt_anti R (Int.le_of_lt hlt)
    omega
  · exact absurd h1 (by omega)
end

end Go.Proofs.Ytcecdcdnjbndiaa.rack
