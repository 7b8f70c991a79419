
/-
  The document's map of numbers and texts: Put, Drop.
-/
import Derived.Test.YtcepjmkhooahnaaGb
namespace Go.Proofs.Ytcepjmkhooahnaa
open Go.RowKit

/-- The tail of a slice from place U on, in whatever shape it is cut. -/
def Tail (A : Option Addr) (n c U : Nat) (v : Value) : Prop :=
  (A = none ∧ v = .slice none 0 0) ∨ (∃ ad, A = some ad ∧ ¬ c ≤ U ∧ v = .slice (some (ad.add (U * 2))) (n - U) (c - U)) ∨ (∃ ad, A = some ad ∧ c ≤ U ∧ v = .slice (some ad) (n - U) 0)
theorem tail_rd {w : World} {A : Option Addr} {c U : Nat} {L : List (Int × List UInt8)} (h : RdE EP w (.slice A L.length c) L) (hU : U ≤ L.length) (w' : World) (ht : Turn (fun _ => False) w w') {v : Value}
    (hv : Tail A L.length c U v) : RdE EP w' v (L.drop U) := by
  have hf := h.fits
  rcases hv with ⟨rfl, rfl⟩ | ⟨ad, rfl, _, rfl⟩ | ⟨ad, rfl, hc, rfl⟩
  · rw [(hf.2.2.2 rfl).1, List.drop_nil]
    exact RdE.nil w'
  · exact (h.back U hU).later ht
  · have e : L.drop U = [] := List.eq_nil_of_length_eq_zero (by rw [List.length_drop]; omega)
    rw [e, show L.length - U = 0 by omega]
    exact RdE.none_left _ (by simp) w' 0 (Nat.zero_le _)
theorem front_rd {w : World} {A : Option Addr} {c P : Nat} {L : List (Int × List UInt8)} (h : RdE EP w (.slice A L.length c) L) (hP : P ≤ L.length) (w' : World) (ht : Turn (fun _ => False) w w') :
    RdE EP w' (.slice A P c) (L.take P) := (h.front P hP).later ht
/-- A row of a call's own, new since w. -/
structure New (w w' : World) (v : Value) (L : List (Int × List UInt8)) : Prop where
  own : OwE EP 42 w' v L
  new : ∀ k, v.ownBlock = some k → w.heap.size ≤ k
  turn : Turn (fun _ => False) w w'
theorem New.start (w : World) (n : Nat) : New w (w.drewN n) (.slice none 0 0) [] := ⟨OwE.nil _, (fun k e => by simp [Value.ownBlock] at e), (Turn.refl _ w).drewN n⟩
theorem New.step {w w1 w2 : World} {v v2 : Value} {L M : List (Int × List UInt8)} (h : New w w1 v L) (ho : OwE EP 42 w2 v2 M) (ht : Turn (fun k => v.ownBlock = some k) w1 w2) (hn : v2.ownBlock = v.ownBlock ∨ v2.ownBlock = some w1.heap.size) : New w w2 v2 M := by
  refine ⟨ho, fun k hk => ?_, h.turn.trans ht (fun k hk e => ?_)⟩
  · rcases hn with e | e
    · exact h.new k (by rw [← e]; exact hk)
    · rw [hk] at e
      cases e
      exact h.turn.size
  · have := h.new k e
    omega
theorem New.alloc {w w1 : World} {v : Value} {L : List (Int × List UInt8)} (h : New w w1 v L) (o : Obj) : New w (w1.alloc o) v L :=
  ⟨h.own.later ((Turn.refl _ w1).alloc o), h.new, h.turn.alloc o⟩
theorem pair_src (w : World) (k : Int) (s : List UInt8) : RdE EP (w.alloc (.cells #[.int .i64 k, .string ⟨s.toArray⟩] 42)) (.slice (some ⟨w.heap.size, 0, none⟩) 1 1) [(k, s)] :=
  (OwE.made (E := EP) (e := 42) w [(k, s)] (by show (1 : Nat) ≤ maxLen; simp [maxLen])).rd
theorem flat_lit (k : Int) (s : List UInt8) (L : List (Int × List UInt8)) (P U : Nat) : ([] ++ L.take P ++ [(k, s)]) ++ L.drop U = L.take P ++ (k, s) :: L.drop U := by simp
theorem pair_info2 : (Try.prog.info? 42).map (fun i => (i.zero, i.size, i.bytes)) = some (some (.agg #[.int .i64 0, .string ⟨#[]⟩]), EP.sz, 24) := pair_info
theorem pair_zero : (Value.agg #[.int .i64 0, .string ⟨#[]⟩]).cells.size = EP.sz := rfl
theorem wpList_pairs (w : World) {ops : Array Oper} {rest : List Oper} {o : Oper} {a : Act} {Q : Exit → Act → World → Prop} (hgd : o.guard = none) (s x : Operand)
    (ho : o.op = .call { callee := .builtin .append, args := #[s, x], argTypes := #[27, 27] }) (v : Value) (l : List (Int × List UInt8)) (hs : a.eval s = v) (hown : OwE EP 42 w v l)
    (y : Value) (hx : a.eval x = y) (m : List (Int × List UInt8)) (hy : RdE EP w y m) (hl : l.length + m.length ≤ 3000000)
    (h : ∀ A n c w', OwE EP 42 w' (.slice A n c) (l ++ m) → Turn (fun k => v.ownBlock = some k) w w' → ((Value.slice A n c).ownBlock = v.ownBlock ∨ (Value.slice A n c).ownBlock = some w.heap.size) → wpList Try.prog ops Q rest (a.put o.dst (.slice A n c)) w') :
    wpList Try.prog ops Q (o :: rest) a w :=
  wpList_appE Try.underlying27 pair_info2 pair_zero w hgd s x _ ho v l hs hown y hx m (hy.src Try.underlying27) (by simp only [maxLen]; omega) (by omega) h

/-- The map's object, with another list. -/
theorem rm_set {w w3 : World} {g : Nat} {sv v : Value} {L M : List (Int × List UInt8)} (h : RM w g sv L) (hn : New w w3 v M) : RM (w3.setCell ⟨g, 0, none⟩ v) g v M := by
  have hlt := h.obj.lt
  have hne : v.ownBlock ≠ some g := fun e => by have := hn.new g e; omega
  refine ⟨?_, (hn.own.rd).turn ((Turn.refl (fun k => k = g) w3).setCell (fun _ => rfl) _) (fun b hb e => hne (by rw [hb, e])), hne⟩
  have := (h.obj.turn hn.turn (fun f => f)).set 0 v
  exact this
theorem rm_post {w w3 : World} {g : Nat} {sv v : Value} {L M : List (Int × List UInt8)} (h : RM w g sv L) (hn : New w w3 v M) :
    ∃ sv', RM (w3.setCell ⟨g, 0, none⟩ v) g sv' M ∧ Turn (fun j => j = g) w (w3.setCell ⟨g, 0, none⟩ v) ∧ ∀ j, sv'.ownBlock = some j → w.heap.size ≤ j :=
  ⟨v, rm_set h hn, Turn.setCell (S := fun j => j = g) (p := ⟨g, 0, none⟩) (hn.turn.mono (fun _ _ f => f.elim)) (fun _ => rfl) _, hn.new⟩

set_option maxRecDepth 100000 in
set_option maxHeartbeats 4000000 in
theorem ref_put6 (g : Nat) (sv : Value) (L : List (Int × List UInt8)) (k : Int) (s : List UInt8) (w : World) (hm : RM w g sv L) (hl : L.length ≤ 1000000) :
    Calls Try.prog 26 #[.pointer (some ⟨g, 0, none⟩), .int .i64 k, .string ⟨s.toArray⟩] w fun e w' => e = .returned (.bool (!hasK ltI L k)) ∧ ∃ sv', RM w' g sv' (putK ltI L k s) ∧ Turn (fun j => j = g) w w' ∧ ∀ j, sv'.ownBlock = some j → w.heap.size ≤ j := by
  have HM := Lib.hid hm
  obtain ⟨A, c, rfl⟩ := hm.row.shape
  have HP := Lib.hid (ref_place g _ L k w hm hl)
  have hle := plc_le (lt := ltI) L k
  have hfit := hm.row.fits
  have HF := Lib.hid (front_rd hm.row hle)
  have hU := upK_le (lt := ltI) L k
  have HT := Lib.hid (fun w' v ht hv => tail_rd hm.row hU w' ht (v := v) hv)
  have hput : putK ltI L k s = L.take (plc ltI L k) ++ (k, s) :: L.drop (upK ltI L k) := rfl
  rw [hput]
  unfold upK at *
  clear hput hm
  cases hh : hasK ltI L k <;> rw [hh] at HP hU HT <;> simp only [Bool.false_eq_true, if_false, if_true] at HT hU ⊢ <;> generalize plc ltI L k = P at *
  · cases A with
    | none =>
      obtain ⟨hL, hc⟩ := hfit.2.2.2 rfl
      subst hc
      have hP : P = 0 := by rw [hL] at hle; simpa using hle
      subst hP
      subst hL
      clear hfit HT HF
      simp only [List.length_nil, List.take_nil, List.drop_nil, Int.natCast_zero] at *
      have HF : Hid (∀ w', RdE EP w' (.slice none 0 0) []) := fun w' => RdE.nil w'
      go_enter Try.func26, Try.ntmps26
      go_wp2_with (first
        | (go_at_call 46; refine HP.out.mono ?_; rintro e w' ⟨rfl, n, rfl⟩; have hobj := (HM.out.obj.turn ((Turn.refl (fun _ => False) w).drewN n) (fun f => f)).cell 0; have HN0 := Lib.hid (New.start w n))
        | (at_builtin; refine wpList_pairs _ rfl _ _ rfl _ [] rfl HN0.out.own _ rfl ([] : List (Int × List UInt8)) (HF.out _) (by simp) ?_; intro A1 n1 c1 w1 ho ht hn; have HN1 := Lib.hid (HN0.out.step ho ht hn); clear ho ht hn HN0; have hobj1 := (HM.out.obj.turn HN1.out.turn (fun f => f)).cell 0)
        | (at_builtin; refine wpList_pairs _ rfl _ _ rfl _ ([] : List (Int × List UInt8)) rfl (HN1.out.alloc _).own _ rfl [(k, s)] (pair_src w1 k s) (by simp) ?_; intro A2 n2 c2 w2 ho ht hn; have HN2 := Lib.hid ((HN1.out.alloc _).step ho ht hn); clear ho ht hn HN1; have hobj2 := (HM.out.obj.turn HN2.out.turn (fun f => f)).cell 0)
        | (at_builtin; refine wpList_pairs _ rfl _ _ rfl _ (([] : List (Int × List UInt8)) ++ [(k, s)]) rfl HN2.out.own _ rfl ([] : List (Int × List UInt8)) (HF.out _) (by simp) ?_; intro A3 n3 c3 w3 ho ht hn; have HN3 := Lib.hid (HN2.out.step ho ht hn); clear ho ht hn HN2; have hobj3 := (HM.out.obj.turn HN3.out.turn (fun f => f)).cell 0; have hfree3 := (HM.out.obj.turn HN3.out.turn (fun f => f)).free 0)
        )
      go_ret
      exact ⟨rfl, by have h := rm_post HM.out HN3.out; simpa using h⟩
    | some ad =>
      clear hfit
      by_cases hck : c ≤ P
      · have hck2 : c - P = 0 := by omega
        have hcc := HM.out.row.fits.2.1
        have HT2 := Lib.hid (fun w' ht => HT.out w' _ ht (.inr (.inr ⟨ad, rfl, hck, rfl⟩)))
        go_enter Try.func26, Try.ntmps26
        go_wp2_with (first
          | (go_at_call 46; refine HP.out.mono ?_; rintro e w' ⟨rfl, n, rfl⟩; have hobj := (HM.out.obj.turn ((Turn.refl (fun _ => False) w).drewN n) (fun f => f)).cell 0; have HN0 := Lib.hid (New.start w n))
          | (at_builtin; refine wpList_pairs _ rfl _ _ rfl _ [] rfl HN0.out.own _ rfl (L.take P) (HF.out _ HN0.out.turn) (by simp only [List.length_take, List.length_nil]; omega) ?_; intro A1 n1 c1 w1 ho ht hn; have HN1 := Lib.hid (HN0.out.step ho ht hn); clear ho ht hn HN0; have hobj1 := (HM.out.obj.turn HN1.out.turn (fun f => f)).cell 0)
          | (at_builtin; refine wpList_pairs _ rfl _ _ rfl _ ([] ++ L.take P) rfl (HN1.out.alloc _).own _ rfl [(k, s)] (pair_src w1 k s) (by simp only [List.length_take, List.length_append, List.length_nil, List.length_singleton]; omega) ?_; intro A2 n2 c2 w2 ho ht hn; have HN2 := Lib.hid ((HN1.out.alloc _).step ho ht hn); clear ho ht hn HN1; have hobj2 := (HM.out.obj.turn HN2.out.turn (fun f => f)).cell 0)
          | (at_builtin; refine wpList_pairs _ rfl _ _ rfl _ (([] ++ L.take P) ++ [(k, s)]) rfl HN2.out.own _ rfl (L.drop P) (HT2.out _ HN2.out.turn) (by simp only [List.length_take, List.length_drop, List.length_append, List.length_nil, List.length_singleton]; omega) ?_; intro A3 n3 c3 w3 ho ht hn; have HN3 := Lib.hid (HN2.out.step ho ht hn); clear ho ht hn HN2; have hobj3 := (HM.out.obj.turn HN3.out.turn (fun f => f)).cell 0; have hfree3 := (HM.out.obj.turn HN3.out.turn (fun f => f)).free 0)
          )
        go_ret
        exact ⟨rfl, by have h := rm_post HM.out HN3.out; rw [flat_lit] at h; exact h⟩
      · have hck2 : ¬ c - P = 0 := by omega
        have HT2 := Lib.hid (fun w' ht => HT.out w' _ ht (.inr (.inl ⟨ad, rfl, hck, rfl⟩)))
        go_enter Try.func26, Try.ntmps26
        go_wp2_with (first
          | (go_at_call 46; refine HP.out.mono ?_; rintro e w' ⟨rfl, n, rfl⟩; have hobj := (HM.out.obj.turn ((Turn.refl (fun _ => False) w).drewN n) (fun f => f)).cell 0; have HN0 := Lib.hid (New.start w n))
          | (at_builtin; refine wpList_pairs _ rfl _ _ rfl _ [] rfl HN0.out.own _ rfl (L.take P) (HF.out _ HN0.out.turn) (by simp only [List.length_take, List.length_nil]; omega) ?_; intro A1 n1 c1 w1 ho ht hn; have HN1 := Lib.hid (HN0.out.step ho ht hn); clear ho ht hn HN0; have hobj1 := (HM.out.obj.turn HN1.out.turn (fun f => f)).cell 0)
          | (at_builtin; refine wpList_pairs _ rfl _ _ rfl _ ([] ++ L.take P) rfl (HN1.out.alloc _).own _ rfl [(k, s)] (pair_src w1 k s) (by simp only [List.length_take, List.length_append, List.length_nil, List.length_singleton]; omega) ?_; intro A2 n2 c2 w2 ho ht hn; have HN2 := Lib.hid ((HN1.out.alloc _).step ho ht hn); clear ho ht hn HN1; have hobj2 := (HM.out.obj.turn HN2.out.turn (fun f => f)).cell 0)
          | (at_builtin; refine wpList_pairs _ rfl _ _ rfl _ (([] ++ L.take P) ++ [(k, s)]) rfl HN2.out.own _ rfl (L.drop P) (HT2.out _ HN2.out.turn) (by simp only [List.length_take, List.length_drop, List.length_append, List.length_nil, List.length_singleton]; omega) ?_; intro A3 n3 c3 w3 ho ht hn; have HN3 := Lib.hid (HN2.out.step ho ht hn); clear ho ht hn HN2; have hobj3 := (HM.out.obj.turn HN3.out.turn (fun f => f)).cell 0; have hfree3 := (HM.out.obj.turn HN3.out.turn (fun f => f)).free 0)
          )
        go_ret
        exact ⟨rfl, by have h := rm_post HM.out HN3.out; rw [flat_lit] at h; exact h⟩
  · cases A with
    | none =>
      obtain ⟨hL, hc⟩ := hfit.2.2.2 rfl
      subst hc
      have hP : P = 0 := by rw [hL] at hle; simpa using hle
      subst hP
      exact absurd hU (by rw [hL]; simp)
    | some ad =>
      clear hfit
      by_cases hck : c ≤ (P + 1)
      · have hck2 : c - (P + 1) = 0 := by omega
        have hcc := HM.out.row.fits.2.1
        have HT2 := Lib.hid (fun w' ht => HT.out w' _ ht (.inr (.inr ⟨ad, rfl, hck, rfl⟩)))
        go_enter Try.func26, Try.ntmps26
        go_wp2_with (first
          | (go_at_call 46; refine HP.out.mono ?_; rintro e w' ⟨rfl, n, rfl⟩; have hobj := (HM.out.obj.turn ((Turn.refl (fun _ => False) w).drewN n) (fun f => f)).cell 0; have HN0 := Lib.hid (New.start w n))
          | (at_builtin; refine wpList_pairs _ rfl _ _ rfl _ [] rfl HN0.out.own _ rfl (L.take P) (HF.out _ HN0.out.turn) (by simp only [List.length_take, List.length_nil]; omega) ?_; intro A1 n1 c1 w1 ho ht hn; have HN1 := Lib.hid (HN0.out.step ho ht hn); clear ho ht hn HN0; have hobj1 := (HM.out.obj.turn HN1.out.turn (fun f => f)).cell 0)
          | (at_builtin; refine wpList_pairs _ rfl _ _ rfl _ ([] ++ L.take P) rfl (HN1.out.alloc _).own _ rfl [(k, s)] (pair_src w1 k s) (by simp only [List.length_take, List.length_append, List.length_nil, List.length_singleton]; omega) ?_; intro A2 n2 c2 w2 ho ht hn; have HN2 := Lib.hid ((HN1.out.alloc _).step ho ht hn); clear ho ht hn HN1; have hobj2 := (HM.out.obj.turn HN2.out.turn (fun f => f)).cell 0)
          | (at_builtin; refine wpList_pairs _ rfl _ _ rfl _ (([] ++ L.take P) ++ [(k, s)]) rfl HN2.out.own _ rfl (L.drop (P + 1)) (HT2.out _ HN2.out.turn) (by simp only [List.length_take, List.length_drop, List.length_append, List.length_nil, List.length_singleton]; omega) ?_; intro A3 n3 c3 w3 ho ht hn; have HN3 := Lib.hid (HN2.out.step ho ht hn); clear ho ht hn HN2; have hobj3 := (HM.out.obj.turn HN3.out.turn (fun f => f)).cell 0; have hfree3 := (HM.out.obj.turn HN3.out.turn (fun f => f)).free 0)
          )
        go_ret
        exact ⟨rfl, by have h := rm_post HM.out HN3.out; rw [flat_lit] at h; exact h⟩
      · have hck2 : ¬ c - (P + 1) = 0 := by omega
        have HT2 := Lib.hid (fun w' ht => HT.out w' _ ht (.inr (.inl ⟨ad, rfl, hck, rfl⟩)))
        go_enter Try.func26, Try.ntmps26
        go_wp2_with (first
          | (go_at_call 46; refine HP.out.mono ?_; rintro e w' ⟨rfl, n, rfl⟩; have hobj := (HM.out.obj.turn ((Turn.refl (fun _ => False) w).drewN n) (fun f => f)).cell 0; have HN0 := Lib.hid (New.start w n))
          | (at_builtin; refine wpList_pairs _ rfl _ _ rfl _ [] rfl HN0.out.own _ rfl (L.take P) (HF.out _ HN0.out.turn) (by simp only [List.length_take, List.length_nil]; omega) ?_; intro A1 n1 c1 w1 ho ht hn; have HN1 := Lib.hid (HN0.out.step ho ht hn); clear ho ht hn HN0; have hobj1 := (HM.out.obj.turn HN1.out.turn (fun f => f)).cell 0)
          | (at_builtin; refine wpList_pairs _ rfl _ _ rfl _ ([] ++ L.take P) rfl (HN1.out.alloc _).own _ rfl [(k, s)] (pair_src w1 k s) (by simp only [List.length_take, List.length_append, List.length_nil, List.length_singleton]; omega) ?_; intro A2 n2 c2 w2 ho ht hn; have HN2 := Lib.hid ((HN1.out.alloc _).step ho ht hn); clear ho ht hn HN1; have hobj2 := (HM.out.obj.turn HN2.out.turn (fun f => f)).cell 0)
          | (at_builtin; refine wpList_pairs _ rfl _ _ rfl _ (([] ++ L.take P) ++ [(k, s)]) rfl HN2.out.own _ rfl (L.drop (P + 1)) (HT2.out _ HN2.out.turn) (by simp only [List.length_take, List.length_drop, List.length_append, List.length_nil, List.length_singleton]; omega) ?_; intro A3 n3 c3 w3 ho ht hn; have HN3 := Lib.hid (HN2.out.step ho ht hn); clear ho ht hn HN2; have hobj3 := (HM.out.obj.turn HN3.out.turn (fun f => f)).cell 0; have hfree3 := (HM.out.obj.turn HN3.out.turn (fun f => f)).free 0)
          )
        go_ret
        exact ⟨rfl, by have h := rm_post HM.out HN3.out; rw [flat_lit] at h; exact h⟩

end Go.Proofs.Ytcepjmkhooahnaa
