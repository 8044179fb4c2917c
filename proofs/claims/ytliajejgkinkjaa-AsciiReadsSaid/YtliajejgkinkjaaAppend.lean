/-
  Given for the seat's laws: append onto a row of bytes of the call's own, and the contracts of the document's Copy and Same. No condition but those of the theorems.
-/
import Derived.Test.YtliajejgkinkjaaReader
import Derived.Laws.OwnMore
import Derived.Deep.AppendLies
import Derived.Deep.QuietTactic
import Derived.BigQuiet
namespace Go.Proofs.Ytliajejgkinkjaa.reader
open Go.RowKit mem
set_option linter.unusedVariables false

theorem B8_one (zs : List Int) : ∀ v ∈ B8 zs, v.oneCell' = true := by
  intro v hv
  obtain ⟨z, _, rfl⟩ := List.mem_map.1 hv
  rfl

/-- append, and where the row lies behind it -/
theorem append_at {w : World} {base : Nat} {v : Value} {n : Nat} {xs ys : List Int} {ok : Nat → Prop} {A : Option Addr} {m c : Nat} (hown : w.ownsRow base 5 1 v n (B8 xs)) (hs : Src w ok A m c ys) (h1 : n + m ≤ 1000000) (hb : base ≤ w.heap.size) :
    ∃ A' c' w', (Builtin.append_ #[25, 25] 25 #[v, .slice A m c]).run Try.prog w = .ok (.slice A' (n + m) c') w' ∧ w'.ownsRow base 5 1 (.slice A' (n + m) c') (n + m) (B8 (xs ++ ys)) ∧ w.grownBy w' v.ownBlock ∧
      ∀ g, (Value.slice A' (n + m) c').ownBlock = some g → v.ownBlock = some g ∨ w.heap.size ≤ g := by
  obtain ⟨i0, hinf, hz0, hz1, hz2⟩ := info_parts (show (Try.prog.info? 5).map (fun i => (i.zero, i.size, i.bytes)) = some (some (.int .u8 0), 1, 1) by kernel_rfl)
  cases A with
  | none =>
    have hc := hs.non rfl
    have hm : m = 0 := by have := hs.cap; omega
    subst hc hm
    have hy : ys = [] := List.eq_nil_of_length_eq_zero hs.len
    subst hy
    have hr := run_append_owned_none (P := Try.prog) w base 25 25 5 i0 1 Try.underlying25 hinf v n (B8 xs) hown
    obtain ⟨A', c', rfl⟩ := own_form hown
    exact ⟨A', c', w, hr, by simpa using hown, World.grownBy.refl w _, fun g e => .inl e⟩
  | some a =>
    obtain ⟨v', w', hr, ho, hg, _, hat⟩ := run_append_own_at (P := Try.prog) w base 25 25 5 i0 (.int .u8 0) 1 1 Try.underlying25 hinf hz0 hz1 hz2 rfl (by decide) v n (B8 xs) hown a m c (B8 ys) (by rw [B8_length, hs.len]; omega)
      (fun j u hu => by
        have hj : j < m := by
          have := (List.getElem?_eq_some_iff.1 hu).1
          rw [B8_length, hs.len] at this
          exact this
        rw [hs.add_cell rfl j hj, ← hu]
        simp [B8, List.getD, hs.len, hj]) (B8_one _) (by unfold maxLen; omega) (by omega) hb
    obtain ⟨A', c', rfl⟩ := own_form ho
    have e : B8 (xs ++ ys) = B8 xs ++ B8 ys := by simp [B8]
    rw [e]
    refine ⟨A', c', w', hr, ho, hg, fun g e' => ?_⟩
    rcases hat with h | h
    · exact .inl (h.symm.trans e')
    · rw [h] at e'
      exact .inr (Nat.le_of_eq (Option.some.inj e'))

theorem wpList_append_eq {P : Program} {w w' : World} {ops : Array Oper} {rest : List Oper} {o : Oper} {a : Act} {Q : Exit → Act → World → Prop} {v u v' : Value} (hg : o.guard = none) (s x : Operand)
    (hop : o.op = Op.call { callee := Callee.builtin Builtin.append, args := #[s, x], argTypes := #[25, 25] }) (hty : o.type = 25) (hs : a.eval s = v) (hx : a.eval x = u)
    (hrun : (Builtin.append_ #[25, 25] 25 #[v, u]).run P w = .ok v' w') (h : wpList P ops Q rest (a.put o.dst v') w') : wpList P ops Q (o :: rest) a w := by
  refine wpList_plain hg fun K hK' => ?_
  unfold Oper.wp
  simp [execOp, hop, hty, resolve, invoke, builtin, hs, hx, hrun, Result.andThen]
  exact hK' _ _ h

theorem own_none (w : World) (B : Nat) (t : TypeId) : w.ownsRow B t 1 (.slice none 0 0) 0 [] := ⟨rfl, .inl ⟨rfl, rfl⟩⟩

def Copies (w : World) (bs : List Int) (m : Nat) (e : Ending) (w' : World) : Prop := ∃ A' c', e = .returned (.slice A' m c') ∧ w'.ownsRow w.heap.size 5 1 (.slice A' m c') m (B8 bs) ∧ Below w.heap.size w w'

set_option maxHeartbeats 400000 in
theorem copy_any {w : World} {ok : Nat → Prop} {A : Option Addr} {m c : Nat} {ys : List Int} (hs : Src w ok A m c ys) (hm : m ≤ 100000) :
    Calls Try.prog 12 #[.slice A m c] w (Copies w ys m) := by
  obtain ⟨A', c', w', happ, ho, hg, _⟩ := append_at (n := 0) (xs := []) (own_none w w.heap.size 5) hs (by omega) (Nat.le_refl _)
  rw [Nat.zero_add] at happ ho
  have HAPP := Lib.hid happ
  have HO := Lib.hid ho
  have HG := Lib.hid hg
  clear happ ho hg hs
  go_enter Try.func12, Try.ntmps12
  go_wp2_with (at_builtin; refine wpList_append_eq rfl _ _ rfl rfl rfl rfl HAPP.out ?_)
  go_ret
  exact ⟨A', c', rfl, HO.out, (Below.refl _ w).grown HG.out (Nat.le_refl _) (fun k e => by simp [Value.ownBlock] at e)⟩

def sameB (xs ys : List Int) : Bool := decide (xs = ys)
theorem sameB_refl (xs : List Int) : sameB xs xs = true := by simp [sameB]

set_option maxHeartbeats 1000000 in
theorem same_any (w : World) {okA okB : Nat → Prop} {A B : Option Addr} {la ca lb cb : Nat} {xs ys : List Int} (hA0 : Src w okA A la ca xs) (hB0 : Src w okB B lb cb ys) :
    Calls Try.prog 14 #[.slice A la ca, .slice B lb cb] w fun e w' => e = .returned (.bool (sameB xs ys)) ∧ Still w w' := by
  have hla := hA0.len
  have hlb := hB0.len
  have hm : la ≤ maxLen := by have := hA0.max; have := hA0.cap; omega
  have hA := hA0.lies
  have hB := hB0.lies
  clear hA0 hB0
  unfold maxLen at hm
  by_cases hl : la = lb
  · subst hl
    have HLA := Lib.hid hla
    have HLB := Lib.hid hlb
    have HA := Lib.hid hA
    have HB := Lib.hid hB
    clear hla hlb hA hB
    go_enter Try.func14, Try.ntmps14
    go_wp2
    go_loopw [5] (fun i wr => ∃ k : Nat, k ≤ la ∧ i = .int .i64 k ∧ Hid (∀ j, j < k → xs[j]? = ys[j]?) ∧ Hid (Still w wr)) (fun i _ => la - (intOf i).toNat)
    case atStart => exact ⟨0, Nat.zero_le _, rfl, fun j hj => absurd hj (by omega), Still.refl _⟩
    case round =>
      obtain ⟨k, hk, rfl, hbelow, HST⟩ := hrel
      by_cases hlt : k < la
      · obtain ⟨g, off, rfl, _, hc⟩ := HA.out (by rw [HLA.out]; omega)
        obtain ⟨g', off', rfl, _, hc'⟩ := HB.out (by rw [HLB.out]; omega)
        obtain ⟨x, hx⟩ : ∃ x, xs[k]? = some x := ⟨_, List.getElem?_eq_getElem (by rw [HLA.out]; exact hlt)⟩
        obtain ⟨y, hy⟩ : ∃ y, ys[k]? = some y := ⟨_, List.getElem?_eq_getElem (by rw [HLB.out]; exact hlt)⟩
        have c1 : wr.cell? ⟨g, off + k, none⟩ = some (.int .u8 x) := (Still.cell HST.out _).trans (hc k x hx)
        have c2 : wr.cell? ⟨g', off' + k, none⟩ = some (.int .u8 y) := (Still.cell HST.out _).trans (hc' k y hy)
        have HX := Lib.hid hx
        have HY := Lib.hid hy
        clear hx hy hc hc'
        have hlt2 : (k : Int) < (la : Int) := by omega
        have hk0 : (0 : Int) ≤ (k : Int) := by omega
        by_cases hxy : x = y
        · subst hxy
          go_wp2
          go_quiet (fail)
          go_wp2
          go_roundw
          case rel =>
            refine ⟨k + 1, by omega, by go_num, fun j hj => ?_, Still.trans HST.out ⟨_, rfl⟩⟩
            by_cases hjk : j = k
            · subst hjk
              rw [HX.out, HY.out]
            · exact hbelow.out j (by omega)
          case measure => simp [intOf]; omega
        · have hne : (x == y) = false := by simpa using hxy
          have hne' : (x != y) = true := by simpa using hxy
          have HF : sameB xs ys = false := by
            unfold sameB
            rw [decide_eq_false_iff_not]
            rintro rfl
            exact hxy (Option.some.inj (HX.out.symm.trans HY.out))
          have HFF := Lib.hid HF
          clear HF hxy
          go_wp2
          go_quiet (fail)
          go_wp2
          go_ret
          exact ⟨by rw [HFF.out]; rfl, Still.trans HST.out ⟨_, rfl⟩⟩
      · obtain rfl : k = la := by omega
        go_wp2
        go_ret
        have HF : sameB xs ys = true := by
          unfold sameB
          rw [decide_eq_true_iff]
          apply List.ext_getElem?
          intro j
          by_cases hj : j < k
          · exact hbelow.out j hj
          · rw [List.getElem?_eq_none (by rw [HLA.out]; omega), List.getElem?_eq_none (by rw [HLB.out]; omega)]
        exact ⟨by rw [HF]; rfl, HST.out⟩
  · have HF : sameB xs ys = false := by
      unfold sameB
      rw [decide_eq_false_iff_not]
      rintro rfl
      exact hl (hla.symm.trans hlb)
    have HFF := Lib.hid HF
    have h1 : ((la : Int) == (lb : Int)) = false := by simp; omega
    have h2 : ((la : Int) != (lb : Int)) = true := by simp; omega
    have h3 : (la == lb) = false := by simpa using hl
    clear HF hl hla hlb hA hB
    go_enter Try.func14, Try.ntmps14
    go_wp2
    go_ret
    exact ⟨by rw [HFF.out]; rfl, Still.refl _⟩

end Go.Proofs.Ytliajejgkinkjaa.reader
