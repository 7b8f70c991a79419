/-
  'PackPuts': whatever is put, one thing behind the other, the writer's bytes are the document's, and a nil writer has none. No condition.
-/
import Derived.Test.YtjanmiafnldkgaaQb
namespace Go.Proofs.Ytjanmiafnldkgaa.packPuts
open Go.ChangeShapes Go.WideShapes Go.ChangeAt Go.RowKit
set_option linter.unusedVariables false

theorem own : ownKnob Try.prog.godebug = none := by kernel_rfl
theorem laidOut : laidOutB Try.prog = true := by kernel_rfl

def all (l : List PD) (k : Nat) : List UInt8 := (l.take k).flatMap formL

theorem all_succ {l : List PD} {k : Nat} {x : PD} (h : l[k]? = some x) : all l (k + 1) = all l k ++ formL x := by
  unfold all
  have hk := (List.getElem?_eq_some_iff.1 h).1
  have hx : l[k] = x := (List.getElem?_eq_some_iff.1 h).2
  rw [List.take_succ_eq_append_getElem hk, List.flatMap_append, hx]
  simp

theorem all_len (l : List PD) (h : ∀ x ∈ l, x.T.size ≤ 60) : ∀ k, (all l k).length ≤ 70 * k := by
  intro k
  induction k with
  | zero => simp [all]
  | succ k ih =>
    by_cases hk : k < l.length
    · have hx : l[k]? = some l[k] := List.getElem?_eq_getElem hk
      rw [all_succ hx, List.length_append]
      have := formL_len l[k] (h _ (List.getElem_mem hk))
      omega
    · have e : all l (k + 1) = all l k := by
        unfold all
        rw [List.take_of_length_le (by omega), List.take_of_length_le (by omega)]
      rw [e]
      omega

def Rel (w : World) (l : List PD) (p : Nat) (x5 x6 : Value) (wr : World) (k : Nat) (v : Value) : Prop :=
  x6 = .int .i64 k ∧ k ≤ l.length ∧ Own w wr p v (all l k) ∧ By wr x5 (all l k) ∧ ∀ g, x5.ownBlock = some g → w.heap.size ≤ g ∧ v.ownBlock ≠ some g

/-- Behind the law's own append. -/
theorem want_step {w wr w1 w2 : World} {l : List PD} {p k : Nat} {x : PD} {v u f : Value} {A : Option Addr} {n c : Nat} (ho : Own w wr p v (all l k)) (hu : ∀ g, u.ownBlock = some g → w.heap.size ≤ g ∧ v.ownBlock ≠ some g)
    (hm : Made wr w1 f (formL x)) (hby0 : By w1 u (all l k)) (hby : By w2 (.slice A n c) (all l k ++ formL x)) (hg : w1.grownBy w2 u.ownBlock) (hat : (Value.slice A n c).ownBlock = u.ownBlock ∨ (Value.slice A n c).ownBlock = some w1.heap.size) :
    Own w w2 p v (all l k) ∧ By w2 (.slice A n c) (all l k ++ formL x) ∧ ∀ g, (Value.slice A n c).ownBlock = some g → w.heap.size ≤ g ∧ v.ownBlock ≠ some g := by
  have h1 := ho.later hm.2.1
  have t2 : Turn (fun g => u.ownBlock = some g) w1 w2 := (Turn.refl _ w1).grown hg (fun k _ e => e)
  refine ⟨⟨h1.1.turn t2 ?_ ?_, h1.2.1.fresh t2 (fun g e => (hu g e).1), h1.2.2⟩, hby, fun g e => ?_⟩
  · exact hby0.ne_box h1.1.1 (by decide)
  · intro g e e2
    exact (hu g e2).2 e
  · rcases hat with e1 | e1
    · exact hu g (e1 ▸ e)
    · rw [e1] at e
      have e3 : w1.heap.size = g := by simpa using e
      have hs1 := h1.2.1.size
      refine ⟨by omega, fun e4 => ?_⟩
      have := h1.1.2.lt e4
      omega

/-- Behind the writer's own put. -/
theorem put_keeps {w w2 w3 : World} {p : Nat} {v v3 u : Value} {a b m : List UInt8} (ho : Own w w2 p v a) (hby : By w2 u m) (hu : ∀ g, u.ownBlock = some g → w.heap.size ≤ g ∧ v.ownBlock ≠ some g) (hp : Put w2 p v w3 v3 b) :
    Own w w3 p v3 b ∧ By w3 u m ∧ ∀ g, u.ownBlock = some g → w.heap.size ≤ g ∧ v3.ownBlock ≠ some g := by
  refine ⟨ho.put hp, hby.turn hp.2.1 ?_, fun g e => ⟨(hu g e).1, fun e3 => ?_⟩⟩
  · rintro g e (rfl | e2)
    · exact hby.ne_box ho.1.1 (by decide) e
    · exact (hu g e).2 e2
  · rcases hp.2.2 with e1 | e1
    · exact (hu g e).2 (e1 ▸ e3)
    · have h1 := e1 g e3
      have := hby.lt e
      omega

theorem PSl.cells {w w' : World} {A : Option Addr} {c n : Nat} {l : List PD} (h : PSl w (.slice A n c) l) (ht : Turn (fun _ => False) w w') {b o : Nat} (hA : A = some ⟨b, o, none⟩) {i : Nat} {x : PD} (hi : l[i]? = some x) : PD.At w' b (o + i * 6) x := by
  subst hA
  obtain ⟨b', o', e, hat, _⟩ := (h.later ht).at hi
  injection e with e
  injection e with e1 e2
  subst e1 e2
  exact hat

set_option maxRecDepth 100000 in
set_option maxHeartbeats 2000000 in
theorem walk (v : Value) (l : List PD) (w : World) (h : PSl w v l) (hlen : l.length ≤ maxLen) :
    Calls Try.prog 5 #[v] w fun e w' => e = .returned (.bool true) ∧ Below w.heap.size w w' := by
  have HP := Lib.hid h
  obtain ⟨A, c, hv, _⟩ := h
  subst hv
  have HL := Lib.hid (light_any _ l w HP.out hlen)
  clear hlen
  cases hlit : lit l with
  | false =>
    rw [hlit] at HL
    clear hlit
    go_enter Try.func5, Try.ntmps5
    go_wp2_with (first
      | (go_at_call 15; refine HL.out.mono ?_; rintro e w1 ⟨rfl, rfl⟩)
      | (go_at_call 12; refine (alive_any w).mono ?_; rintro e w5 ⟨rfl, ht⟩; have HT5 := Lib.hid ht; clear ht))
    go_ret
    exact ⟨rfl, HT5.out.below (Nat.le_refl _) (fun _ f => f.elim)⟩
  | true =>
    rw [hlit] at HL
    obtain ⟨h40, h60⟩ := lit_use hlit
    clear hlit
    have HA := Lib.hid (all_len l h60)
    have H60 := Lib.hid h60; clear h60
    go_enter Try.func5, Try.ntmps5
    go_wp2_with (go_at_call 15; refine HL.out.mono ?_; rintro e w1 ⟨rfl, rfl⟩)
    go_loopw [5, 6] (fun x5 x6 wr => ∃ (k : Nat) (u : Value), Rel w l w.heap.size x5 x6 wr k u) (fun _ x6 _ => l.length - (intOf x6).toNat)
    case atStart => exact ⟨0, .slice none 0 0, rfl, Nat.zero_le _, Own.new w, By.nil _, fun g e => by cases e⟩
    case round =>
      obtain ⟨k, v0, rfl, hk, hown, hby, hu⟩ := hrel
      by_cases hlt : k < l.length
      · obtain ⟨x, hx⟩ : ∃ x, l[k]? = some x := ⟨_, List.getElem?_eq_getElem hlt⟩
        obtain ⟨b, o, hAb, hat, hfit⟩ := HP.out.at hx
        subst hAb
        have HAT := Lib.hid (fun w' ht => PSl.cells (w' := w') HP.out ht rfl hx)
        obtain ⟨a0, a1, a2, a3, a4, a5⟩ := HAT.out wr hown.2.1
        have HF := Lib.hid hfit; clear hfit
        have h60 := H60.out x (List.mem_of_getElem? hx)
        have hlen := HA.out k
        have HX := Lib.hid hx; clear hx hat
        have HO := Lib.hid hown; clear hown
        have HB := Lib.hid hby; clear hby
        have HU := Lib.hid hu; clear hu
        go_wp2_with (first
          | (go_at_call 16; refine (form_any x wr HF.out h60).mono ?_; rintro e w1 ⟨f, rfl, hm⟩; obtain ⟨A1, c1, hf⟩ := hm.shape; subst hf; have HM1 := Lib.hid hm; have HB1 := Lib.hid (HB.out.turn hm.2.1 (fun _ _ f => f)); clear hm)
          | (at_builtin; go_must (refine wpList_app _ rfl _ _ _ rfl _ (all l k) rfl HB1.out _ rfl (formL x) HM1.out.1.yields (by have := formL_len x h60; omega) ?_); intro A2 n2 c2 w2 hby hg hat; have HS := Lib.hid (want_step HO.out HU.out HM1.out HB1.out hby hg hat); clear hby hg hat a0 a1 a2 a3 a4 a5; obtain ⟨a0, a1, a2, a3, a4, a5⟩ := HAT.out w2 HS.out.1.2.1))
        refine (put_any w.heap.size v0 (all l k) x w2 HS.out.1.1 (by omega) HF.out h60).mono ?_
        rintro e w3 ⟨rfl, v3, hp⟩
        have HK3 := Lib.hid (put_keeps HS.out.1 HS.out.2.1 HS.out.2.2 hp)
        clear hp a0 a1 a2 a3 a4 a5
        obtain ⟨a0, a1, a2, a3, a4, a5⟩ := HAT.out w3 HK3.out.1.2.1
        have hpe := ptr_neq ⟨w.heap.size, 0, none⟩
        go_wp2_with fail
        refine (put_nil x w3).mono ?_
        rintro e w4 ⟨rfl, ht⟩
        have HO4 := Lib.hid (HK3.out.1.later ht)
        have HB4 := Lib.hid (HK3.out.2.1.turn ht (fun _ _ f => f))
        clear ht a0 a1 a2 a3 a4 a5
        go_wp2_with fail
        refine (bytes_any w.heap.size v3 (all l k ++ formL x) w4 HO4.out.1 (by have := formL_len x h60; simp; omega)).mono ?_
        rintro e w5 ⟨v5, rfl, hb, ht, _⟩
        have HO5 := Lib.hid (HO4.out.later ht)
        have HB5 := Lib.hid (HB4.out.turn ht (fun _ _ f => f))
        have HR5 := Lib.hid hb.rd
        clear ht hb
        go_wp2_with fail
        refine (same_any v5 _ _ (all l k ++ formL x) w5 HR5.out HB5.out.rd).mono ?_
        rintro e w6 ⟨rfl, rfl⟩
        go_wp2_with fail
        refine (len_any w.heap.size v3 _ w5 HO5.out.1).mono ?_
        rintro e w6 ⟨rfl, rfl⟩
        have HN := Lib.hid HB5.out.cap.1
        have hn2 : ((((all l k).length : Int) + ((formL x).length : Int)) != (n2 : Int)) = false := by rw [HN.out, List.length_append]; simp
        go_wp2_with fail
        go_roundw
        case rel => exact ⟨k + 1, v3, by go_num, by omega, by rw [all_succ HX.out]; exact HO5.out, by rw [all_succ HX.out]; exact HB5.out, HK3.out.2.2⟩
        case measure => simp [intOf]; omega
      · have ek : k = l.length := by omega
        subst ek
        have HO := Lib.hid hown; clear hown
        clear hby hu
        go_wp2_with (first | (go_at_call 12; refine (alive_any _).mono ?_; rintro e w5 ⟨rfl, ht⟩; have HT5 := Lib.hid (HO.out.2.1.fresh ht (fun _ f => f.elim)); clear ht) | go_in)
        go_ret
        exact ⟨rfl, HT5.out.below (Nat.le_refl _) (fun _ f => f.elim)⟩

set_option maxRecDepth 100000 in
theorem lifted (os : Os) (started : os.Started) (H : Type) (enc : TypeId × Value → H) :
    ReturnsInHanded {} Try.checked os 5 .any (Rows.packPutsSpec.pre6 enc Try.prog Try.f5 Rows.packPutsRow.domain false) (Rows.packPutsSpec.post enc Try.prog Try.f5 false true false false) := by
  refine returnsInHanded_of_change (C := Try.checked) own started (by kernel_rfl) Try.func5
    (ChangeSpec.witness6 (enc := enc) (C := Try.checked) false ⟨#[], #[.slice none 0 0], []⟩ 8 (by kernel_rfl) (by kernel_rfl) (by kernel_rfl) (by kernel_rfl)) ?_
  intro W base args ds gs before hval0 hW hcnd _
  have hval : ∀ (j : Nat) t v, Try.f5.params[j]? = some t → args[j]? = some v → Value.okWide Try.prog W .any base t v := hval0
  have hW' := hW
  obtain ⟨p, q, hA0, hV, rfl, hfz, hnd⟩ := hW
  have hA : DataW.TrodAll enc Try.prog W 0 (fun _ => true) true Try.f5.params.toList args.toList ds p := hA0
  rw [Try.params5] at hA hval
  obtain ⟨v0, vs0, d0, ds0, p0, q0, hargs, rfl, rfl, h0, r0⟩ := trodAll_cons hA
  obtain ⟨rfl, rfl, rfl⟩ := trodAll_nil r0
  obtain rfl : args = #[v0] := by cases args; simp_all
  obtain ⟨rfl, rfl⟩ := trodVars_none hV
  have k0 := h0
  have lt0 : ∀ x ∈ p0, x.block < W.heap.size := by obtain ⟨m, hm⟩ := k0; exact DataW.trod_lt m _ _ _ hm
  obtain ⟨a0, len0, cap0, rfl⟩ := okWide_slice Try.underlying36 (hval 0 36 v0 rfl rfl)
  obtain ⟨l0, hp0, hl0⟩ := open_parts rfl h0
  clear hA0 hval0
  refine (walk _ l0 W hp0 hl0).mono fun e W' ⟨he, bel⟩ => ?_
  subst he
  exact ⟨_, rfl, _, _, _, [], _, [], hW', trodAll_mk1 (shut_bool Try.underlying4 _), (trodAll_cons_mk (Below.trod laidOut (by kernel_rfl) (of_decide_eq_true (by kernel_rfl)) k0 bel lt0) trodAll_mk0), rfl, bel.frame _, fun h => by cases h⟩

theorem over : Rows.packPutsRow.holds Try.pinned (OpenSpec.ofChange Rows.packPutsSpec) :=
  OpenClaim.holds_of_wide 5 Try.f5 rfl rfl rfl rfl rfl rfl rfl ⟨rfl, rfl, rfl, rfl, rfl⟩ rfl rfl rfl rfl rfl (by kernel_rfl) Try.func5 (by kernel_rfl)
    (of_decide_eq_true (by kernel_rfl)) (by unfold Func.isWrapper; first | (rw [if_pos (by decide +kernel)]; kernel_rfl) | (rw [if_neg (by decide +kernel)]; exact ⟨rfl, rfl⟩))
    (fun os started H enc _ => lifted os started H enc)

theorem proved : Rows.PackPutsSaid := over
#print axioms proved
end Go.Proofs.Ytjanmiafnldkgaa.packPuts
