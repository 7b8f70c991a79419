
/-
  Stage 9: facts held against each other; which facts are light; the document's Weight.
-/
import Derived.Test.YtejilonhdgfkbaaZe
import Derived.Test.YtejilonhdgfkbaaZk
import Derived.Test.YtejilonhdgfkbaaMe
import Derived.Test.YtejilonhdgfkbaaEa
namespace Go.Proofs.Ytejilonhdgfkbaa
open Go.RowKit

set_option maxRecDepth 100000

set_option maxHeartbeats 4000000 in
theorem same_refl9 (a b : Value) (L : List F9) (w : World) (ha : RdE EF w a L) (hb : RdE EF w b L) (hl : L.length ≤ 1000000) :
    Calls Try.prog 21 #[a, b] w fun e w' => e = .returned (.bool true) ∧ Turn (fun _ => False) w w' := by
  have HA := Lib.hid ha; have HB := Lib.hid hb
  obtain ⟨A, c, rfl⟩ := ha.shape
  obtain ⟨B, d, rfl⟩ := hb.shape
  clear ha hb
  go_enter Try.func21, Try.ntmps21
  go_wp2_with fail
  go_loopw [5] (fun x5 wr => ∃ i : Nat, x5 = .int .i64 (i : Int) ∧ i ≤ L.length ∧ ∃ n, wr = w.drewN n) (fun x5 _ => L.length - (intOf x5).toNat)
  case atStart => exact ⟨0, rfl, Nat.zero_le _, 0, rfl⟩
  case round =>
    obtain ⟨i, rfl, hi, n, rfl⟩ := hrel
    by_cases hlt : i < L.length
    · obtain ⟨x, hx⟩ : ∃ x, L[i]? = some x := ⟨_, List.getElem?_eq_getElem hlt⟩
      obtain ⟨ad, rfl, hc⟩ := fact_at6 HA.out hx
      obtain ⟨bd, rfl, hd⟩ := fact_at6 HB.out hx
      obtain ⟨c0, c1, c2, c3, c4, c5⟩ := hc w (Turn.refl _ _)
      obtain ⟨d0, d1, d2, d3, d4, d5⟩ := hd w (Turn.refl _ _)
      clear hc hd hx
      have hil : (i : Int) < L.length := by omega
      have hne := run_neq_fact x x
      have hgd := fun X Y => guard_fact9 .neq X Y x x
      rw [decide_eq_true rfl, Bool.not_true] at hne
      go_wp2_with fail
      go_quiet (fail)
      go_wp2
      go_roundw
      case rel => exact ⟨i + 1, by go_num, hlt, n + nq, by simp [World.drewN]⟩
      case measure => simp [intOf]; omega
    · obtain rfl : i = L.length := by omega
      go_wp2
      go_ret
      exact ⟨rfl, (Turn.refl _ w).drewN _⟩

/-- Facts that are few, and short. -/
def short9 (f : F9) : Bool := decide (f.k.a.length ≤ 40) && decide (f.k.b.length ≤ 40) && decide (f.k.c.length ≤ 40) && decide (f.k.d.length ≤ 40)
def light9 (l : List F9) : Bool := decide (l.length ≤ 100) && l.all short9
theorem short_all9 {f : F9} (h : ∀ k, k < 4 → (f.k.dim k).length ≤ 40) : short9 f = true := by
  have e0 := h 0 (by omega)
  have e1 := h 1 (by omega)
  have e2 := h 2 (by omega)
  have e3 := h 3 (by omega)
  simp only [K9.dim] at e0 e1 e2 e3
  simp [short9, e0, e1, e2, e3]
theorem short_not9 {f : F9} {k : Nat} (hk : k < 4) (h : ¬ (f.k.dim k).length ≤ 40) : short9 f = false := by
  match k, hk with
  | 0, _ => simp only [K9.dim] at h; simp [short9, h]
  | 1, _ => simp only [K9.dim] at h; simp [short9, h]
  | 2, _ => simp only [K9.dim] at h; simp [short9, h]
  | 3, _ => simp only [K9.dim] at h; simp [short9, h]
theorem light_not9 {l : List F9} {i : Nat} {f : F9} (h : l[i]? = some f) (hf : short9 f = false) : light9 l = false := by
  unfold light9
  rw [Bool.and_eq_false_iff]
  right
  rw [← Bool.not_eq_true, List.all_eq_true]
  intro hall
  rw [hall f (List.mem_of_getElem? h)] at hf
  cases hf
theorem light_all9 {l : List F9} (hl : l.length ≤ 100) (h : ∀ (i : Nat) (f : F9), i < l.length → l[i]? = some f → short9 f = true) : light9 l = true := by
  unfold light9
  rw [Bool.and_eq_true, decide_eq_true_iff, List.all_eq_true]
  refine ⟨hl, fun f hf => ?_⟩
  obtain ⟨i, hi, e⟩ := List.getElem_of_mem hf
  exact h i f hi (by rw [List.getElem?_eq_getElem hi, e])

set_option maxHeartbeats 4000000 in
theorem light_any9 (v : Value) (l : List F9) (w : World) (hv : RdE EF w v l) (hl : l.length ≤ maxLen) : Calls Try.prog 11 #[v] w fun e w' => e = .returned (.bool (light9 l)) ∧ w' = w := by
  have HV := Lib.hid hv
  obtain ⟨A, c, rfl⟩ := hv.shape
  unfold maxLen at hl
  clear hv
  by_cases h100 : l.length ≤ 100
  · have h100' : (l.length : Int) ≤ 100 := by omega
    go_enter Try.func11, Try.ntmps11
    go_wp2_with fail
    go_loopw [3] (fun x3 wr => wr = w ∧ ∃ i : Nat, x3 = .int .i64 (i : Int) ∧ i ≤ l.length ∧ ∀ k f, k < i → l[k]? = some f → short9 f = true) (fun x3 _ => l.length - (intOf x3).toNat)
    case atStart => exact ⟨rfl, 0, rfl, Nat.zero_le _, fun k f hk => absurd hk (Nat.not_lt_zero k)⟩
    case round =>
      obtain ⟨rfl, i, rfl, hi, he⟩ := hrel
      have HE := Lib.hid he
      clear he
      by_cases hlt : i < l.length
      · obtain ⟨f, hf⟩ : ∃ f, l[i]? = some f := ⟨_, List.getElem?_eq_getElem hlt⟩
        obtain ⟨ad, rfl, hc⟩ := fact_at HV.out hf
        have hil : (i : Int) < l.length := by omega
        have HC := Lib.hid hc
        have HF := Lib.hid hf
        clear hc hf
        go_wp2_with fail
        go_loopw [4] (fun x4 wk => wk = wr ∧ ∃ k : Nat, x4 = .int .i64 (k : Int) ∧ k ≤ 4 ∧ ∀ j, j < k → (f.k.dim j).length ≤ 40) (fun x4 _ => 4 - (intOf x4).toNat)
        case atStart => exact ⟨rfl, 0, rfl, Nat.zero_le _, fun k hk => absurd hk (Nat.not_lt_zero k)⟩
        case round =>
          obtain ⟨rfl, k, rfl, hk, hd⟩ := hrel
          have HD := Lib.hid hd
          clear hd
          by_cases hk4 : k < 4
          · have e1 := (HC.out _ (Turn.refl _ _)).2.1 k hk4
            have hkl : (k : Int) < 4 := by omega
            rw [← Nat.add_assoc] at e1
            unfold sv9 at e1
            generalize hT : f.k.dim k = T at *
            by_cases hlen : T.length ≤ 40
            · have hli : (T.length : Int) ≤ 40 := by omega
              go_wp2_with fail
              go_roundw
              case rel => exact ⟨trivial, k + 1, by go_num, hk4, fun j hj => by
                by_cases ej : j = k
                · rw [ej, hT]; exact hlen
                · exact HD.out j (by omega)⟩
              case measure => simp [intOf]; omega
            · have hli : ¬ ((T.length : Int) ≤ 40) := by omega
              have HK := Lib.hid (light_not9 HF.out (short_not9 hk4 (by rw [hT]; exact hlen)))
              go_wp2_with fail
              go_ret
              rw [HK.out]
              exact ⟨rfl, rfl⟩
          · obtain rfl : k = 4 := by omega
            have HK := Lib.hid (short_all9 HD.out)
            go_wp2_with fail
            go_roundw
            case rel => exact ⟨trivial, i + 1, by go_num, hlt, fun j g hj hg => by
              by_cases ej : j = i
              · subst ej
                rw [HF.out] at hg
                cases hg
                exact HK.out
              · exact HE.out j g (by omega) hg⟩
            case measure => simp [intOf]; omega
      · obtain rfl : i = l.length := by omega
        have HK := Lib.hid (light_all9 h100 HE.out)
        go_wp2
        go_ret
        rw [HK.out]
        exact ⟨rfl, rfl⟩
  · have h100' : ¬ ((l.length : Int) ≤ 100) := by omega
    have e : light9 l = false := by simp [light9, h100]
    rw [e]
    go_enter Try.func11, Try.ntmps11
    go_wp2
    go_ret
    exact ⟨rfl, rfl⟩

/-- What the document's Weight answers. -/
def values9 (l : List F9) : List Int := l.map (·.v)
set_option maxHeartbeats 4000000 in
theorem ref_weight9 (v : Value) (l : List F9) (w : World) (hv : RdE EF w v l) (hl : l.length ≤ 1000) : Calls Try.prog 17 #[v] w fun e w' => e = .returned (weighV (values9 l)) ∧ Turn (fun _ => False) w w' := by
  have HV := Lib.hid hv
  obtain ⟨A, c, rfl⟩ := hv.shape
  clear hv
  have HN0 := Lib.hid (NewE.start (E := EN9) (e := 2) w 0)
  go_enter Try.func17, Try.ntmps17
  go_wp2_with fail
  go_loopw [4, 5] (fun x4 x5 wr => ∃ i : Nat, x5 = .int .i64 (i : Int) ∧ i ≤ l.length ∧ NewE EN9 2 w wr x4 (values9 (l.take i))) (fun _ x5 _ => l.length - (intOf x5).toNat)
  case atStart => exact ⟨0, rfl, Nat.zero_le _, HN0.out⟩
  case round =>
    obtain ⟨i, rfl, hi, hm⟩ := hrel
    have HM := Lib.hid hm
    obtain ⟨A2, c2, hv⟩ := hm.own.shape
    have hti : (values9 (l.take i)).length = i := by unfold values9; rw [List.length_map, List.length_take]; omega
    rw [hti] at hv
    subst hv
    clear hm
    by_cases hlt : i < l.length
    · obtain ⟨f, hf⟩ : ∃ f, l[i]? = some f := ⟨_, List.getElem?_eq_getElem hlt⟩
      obtain ⟨ad, rfl, hc⟩ := fact_at HV.out hf
      have e5 := (hc wr HM.out.turn).2.2
      have hil : (i : Int) < l.length := by omega
      have HTK : Hid (values9 (l.take (i + 1)) = values9 (l.take i) ++ [f.v]) := by
        obtain ⟨h0, e⟩ := List.getElem?_eq_some_iff.1 hf
        rw [List.take_succ_eq_append_getElem h0, e]
        unfold values9
        rw [List.map_append]
        rfl
      have HN1 := Lib.hid (HM.out.alloc (.cells #[.int .i64 f.v] 2))
      have HSR := Lib.hid (one_row EN9 2 wr f.v)
      clear hc hf
      go_wp2_with (at_builtin; refine wpList_nums9 _ rfl _ _ rfl _ _ rfl HN1.out.own _ rfl [f.v] HSR.out (by simp only [List.length_cons, List.length_nil, hti]; omega) ?_; intro A3 n3 c3 w3 ho ht hn; have HN3 := Lib.hid (HN1.out.step ho ht hn); clear ho ht hn)
      go_roundw
      case rel => exact ⟨i + 1, by go_num, hlt, by rw [HTK.out]; exact HN3.out⟩
      case measure => simp [intOf]; omega
    · obtain rfl : i = l.length := by omega
      have HM2 : Hid (NewE EN9 2 w wr (.slice A2 l.length c2) (values9 l)) := by have h := HM.out; rwa [List.take_length] at h
      have hvl : (values9 l).length ≤ 1000000 := by unfold values9; rw [List.length_map]; omega
      go_wp2_with fail
      refine (ref_weight _ (values9 l) wr (rd_num9 HM2.out.own.rd) hvl).mono ?_
      unfold weighV
      rintro e w2 ⟨rfl, rfl⟩
      go_wp2
      go_ret2
      exact ⟨rfl, HM2.out.turn⟩

end Go.Proofs.Ytejilonhdgfkbaa
