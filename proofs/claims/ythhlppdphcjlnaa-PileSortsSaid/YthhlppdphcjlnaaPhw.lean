
/-
  The program's pile (things: ossuaryref07.Item): all things, popped one by one.
-/
import Derived.Test.YthhlppdphcjlnaaPgw
namespace Go.Proofs.Ythhlppdphcjlnaa.plw
open Go.RowKit Go.ChangeShapes Go.WideShapes Go.Deep

theorem wpList_things (w : World) {ops : Array Oper} {rest : List Oper} {o : Oper} {a : Act} {Q : Exit → Act → World → Prop} (hgd : o.guard = none) (s x : Operand)
    (ho : o.op = .call { callee := .builtin .append, args := #[s, x], argTypes := #[30, 30] }) (v : Value) (l : List (Int × List UInt8)) (hs : a.eval s = v) (hown : OwE ET 27 w v l)
    (y : Value) (hx : a.eval x = y) (m : List (Int × List UInt8)) (hy : RdE ET w y m) (hl : l.length + m.length ≤ 3000000)
    (h : ∀ A n c w', OwE ET 27 w' (.slice A n c) (l ++ m) → Turn (fun k => v.ownBlock = some k) w w' → ((Value.slice A n c).ownBlock = v.ownBlock ∨ (Value.slice A n c).ownBlock = some w.heap.size) → wpList Try.prog ops Q rest (a.put o.dst (.slice A n c)) w') :
    wpList Try.prog ops Q (o :: rest) a w :=
  wpList_appE Try.underlying30 thing_info thing_zero w hgd s x _ ho v l hs hown y hx m (hy.src Try.underlying30) (by simp only [maxLen]; omega) (by omega) h
theorem made_things (N : Nat) (hN : N ≤ 1000000) (w : World) : (Instr.makeSlice 30 (.int .i64 0) (.int .i64 (N : Int))).run Try.prog w = .ok (.slice (some ⟨w.heap.size, 0, none⟩) 0 N) (w.alloc (.cells (madeCells (Value.cells (.agg #[.int .i64 0, .string ⟨#[]⟩])) (N * 2)) 27)) := by
  obtain ⟨i, hi, hz, h1, h2⟩ := info_parts thing_info
  have h := run_make (P := Try.prog) w 30 27 i _ Try.underlying30 hi hz .i64 .i64 0 (N : Int) (Int.le_refl _) (by omega) (by rw [h2]; omega) (by omega)
  rw [h1, show ((N : Int)).toNat = N from Int.toNat_natCast N] at h
  exact h
theorem own_made (N : Nat) (hN : N ≤ 1000000) (w : World) : OwE ET 27 (w.alloc (.cells (madeCells (Value.cells (.agg #[.int .i64 0, .string ⟨#[]⟩])) (N * 2)) 27)) (.slice (some ⟨w.heap.size, 0, none⟩) 0 N) [] :=
  OwE.of_box (E := ET) (L := []) (c := N) (Box.new w _ _) (Nat.zero_le _) (by simp only [maxLen]; omega) (by rw [size_madeCells]; rfl) (by simp [El.flat])

/-- Some things popped, and put into a row. -/
def Draining (w : World) (g : Nat) (sv : Value) (L : List (Int × List UInt8)) (n i : Nat) (v : Value) (wr : World) : Prop :=
  ∃ sv', Mp wr g sv' (L.drop i) n ∧ (∀ k, sv'.ownBlock = some k → sv.ownBlock = some k) ∧ OwE ET 27 wr v (L.take i) ∧ (∀ k, v.ownBlock = some k → w.heap.size ≤ k) ∧ Turn (fun k => k = g ∨ sv.ownBlock = some k) w wr
/-- Behind a row that was laid of all things. -/
def Drained (w : World) (S : Nat → Prop) (L : List (Int × List UInt8)) (e : Ending) (w' : World) : Prop :=
  ∃ v, e = .returned v ∧ OwE ET 27 w' v L ∧ (∀ k, v.ownBlock = some k → w.heap.size ≤ k) ∧ Turn S w w'
theorem Draining.popped {w wr w2 : World} {g n i : Nat} {sv v u : Value} {L : List (Int × List UInt8)} {R : List (Int × List UInt8)} {e : Ending} (hg : g < w.heap.size) (hs : ∀ k, sv.ownBlock = some k → k < w.heap.size) {sv' : Value} (_h1 : Mp wr g sv' (L.drop i) n) (h2 : ∀ k, sv'.ownBlock = some k → sv.ownBlock = some k)
    (h3 : OwE ET 27 wr v (L.take i)) (h4 : ∀ k, v.ownBlock = some k → w.heap.size ≤ k) (h5 : Turn (fun k => k = g ∨ sv.ownBlock = some k) w wr) (hp : Popped wr g sv' R n u e w2) :
    ∃ sv2, Mp w2 g sv2 R n ∧ (∀ k, sv2.ownBlock = some k → sv.ownBlock = some k) ∧ OwE ET 27 w2 v (L.take i) ∧ Turn (fun k => k = g ∨ sv.ownBlock = some k) w w2 := by
  obtain ⟨_, sv2, m1, m2, m3⟩ := hp
  refine ⟨sv2, m1, fun k hk => h2 k (m3 k hk), h3.turn m2 (fun k hk e => ?_), h5.trans m2 (fun k _ e => e.imp id (h2 k))⟩
  have := h4 k hk
  rcases e with e | e
  · omega
  · have := hs k (h2 k e); omega

theorem drain_step {w w2 wa w3 : World} {g n i : Nat} {sv sv2 v v3 : Value} {L : List (Int × List UInt8)} {x : (Int × List UInt8)} (p1 : Mp w2 g sv2 (L.drop (i + 1)) n) (p2 : ∀ k, sv2.ownBlock = some k → sv.ownBlock = some k) (htk : L.take (i + 1) = L.take i ++ [x]) (hta : Turn (fun _ => False) w2 wa)
    (ho : OwE ET 27 w3 v3 (L.take i ++ [x])) (ht : Turn (fun k => v.ownBlock = some k) wa w3) (hn : v3.ownBlock = v.ownBlock ∨ v3.ownBlock = some wa.heap.size) (h4 : ∀ k, v.ownBlock = some k → w.heap.size ≤ k) (hle : w.heap.size ≤ w2.heap.size)
    (h5 : Turn (fun k => k = g ∨ sv.ownBlock = some k) w w2) (hg : g < w.heap.size) (hs : ∀ k, sv.ownBlock = some k → k < w.heap.size) : Draining w g sv L n (i + 1) v3 w3 := by
  refine ⟨sv2, (p1.later hta).turn ht (fun e => ?_) (fun k hk e => ?_), p2, by rw [htk]; exact ho, fun k hk => ?_, (h5.trans hta (fun _ _ f => f.elim)).trans ht (fun k hk e => ?_)⟩
  · have := h4 _ e; omega
  · have h1 := h4 _ e; have h2 := hs _ (p2 _ hk); omega
  · rcases hn with e | e
    · exact h4 k (by rw [← e]; exact hk)
    · rw [hk] at e
      cases e
      exact Nat.le_trans hle hta.size
  · have := h4 _ e; omega

set_option maxRecDepth 100000 in
set_option maxHeartbeats 4000000 in
theorem drain_any (g n : Nat) (sv : Value) (L : List (Int × List UInt8)) (w : World) (h : Mp w g sv L n) (hl : L.length ≤ 100000) :
    Calls Try.prog 32 #[.pointer (some ⟨g, 0, none⟩)] w fun e w' => Drained w (fun k => k = g ∨ sv.ownBlock = some k) L e w' := by
  have HM := Lib.hid h
  have HLEN := Lib.hid (fun W ht => len_any g n sv L W (HM.out.later ht))
  have hmk := made_things L.length (by omega)
  have HLT := Lib.hid h.lt
  clear h
  go_enter Try.func32, Try.ntmps32
  go_wp2_with (first
    | (go_at_call 15; refine (HLEN.out _ (Turn.refl _ w)).mono ?_; rintro e w2 ⟨rfl, rfl⟩)
    | (go_at_call 15; refine (HLEN.out _ ((Turn.refl _ w).alloc _)).mono ?_; rintro e w2 ⟨rfl, rfl⟩)
    | fail)
  have HD0 : Hid (Draining w g sv L n 0 (.slice (some ⟨w.heap.size, 0, none⟩) 0 L.length) (w.alloc (.cells (madeCells (Value.cells (.agg #[.int .i64 0, .string ⟨#[]⟩])) (L.length * 2)) 27))) :=
    ⟨sv, HM.out.later ((Turn.refl _ w).alloc _), (fun _ e => e), own_made L.length (by omega) w, (fun k e => Nat.le_of_eq (by simpa [Value.ownBlock] using e)), (Turn.refl _ w).alloc _⟩
  clear hmk
  go_loopw [3, 11] (fun x3 x11 wr => ∃ i : Nat, x11 = .int .i64 (i : Int) ∧ i ≤ L.length ∧ Draining w g sv L n i x3 wr) (fun _ x11 _ => L.length - (intOf x11).toNat)
  case atStart => exact ⟨0, rfl, Nat.zero_le _, HD0.out⟩
  case round =>
    obtain ⟨i, rfl, hi, sv', h1, h2, h3, h4, h5⟩ := hrel
    have H1 := Lib.hid h1; have H2 := Lib.hid h2; have H3 := Lib.hid h3; have H4 := Lib.hid h4; have H5 := Lib.hid h5
    obtain ⟨A, c, hv⟩ := h3.shape
    have hti : (L.take i).length = i := by rw [List.length_take]; omega
    rw [hti] at hv
    subst hv
    clear h1 h2 h3 h4 h5
    by_cases hlt : i < L.length
    · obtain ⟨x, hx⟩ : ∃ x, L[i]? = some x := ⟨_, List.getElem?_eq_getElem hlt⟩
      have hdr : L.drop i = x :: L.drop (i + 1) := by
        obtain ⟨h0, e⟩ := List.getElem?_eq_some_iff.1 hx
        rw [List.drop_eq_getElem_cons h0, e]
      have htk : L.take (i + 1) = L.take i ++ [x] := by
        obtain ⟨h0, e⟩ := List.getElem?_eq_some_iff.1 hx
        rw [List.take_succ_eq_append_getElem h0, e]
      have HPOP := Lib.hid (pop_some g n sv' x (L.drop (i + 1)) wr (by rw [← hdr]; exact H1.out) (by rw [List.length_drop]; omega))
      have HTK := Lib.hid htk
      clear hdr htk hx
      have hli : (i : Int) < L.length := by omega
      have HDP : Hid (∀ w2 u e, Popped wr g sv' (L.drop (i + 1)) n u e w2 → ∃ sv2, Mp w2 g sv2 (L.drop (i + 1)) n ∧ (∀ k, sv2.ownBlock = some k → sv.ownBlock = some k) ∧ OwE ET 27 w2 (.slice A i c) (L.take i) ∧ Turn (fun k => k = g ∨ sv.ownBlock = some k) w w2) :=
        fun w2 u e hp => Draining.popped HLT.out.1 (fun k hk => (HLT.out.2 k hk).1) H1.out H2.out H3.out H4.out H5.out hp
      go_wp2_with fail
      refine HPOP.out.mono ?_
      rintro e w2 hp
      have HPP := Lib.hid (HDP.out _ _ _ hp)
      obtain ⟨rfl, -⟩ := hp
      obtain ⟨sv2, p1, p2, p3, p4⟩ := HPP.out
      have P1 := Lib.hid p1; have P2 := Lib.hid p2; have P3 := Lib.hid p3; have P4 := Lib.hid p4
      clear p1 p2 p3 p4 HPP
      have hle2 : Hid (w.heap.size ≤ w2.heap.size) := P4.out.size
      have HOA : Hid (OwE ET 27 ((w2.alloc (.cells #[.int .i64 x.1, .string ⟨x.2.toArray⟩] 27)).alloc (.cells #[.int .i64 x.1, .string ⟨x.2.toArray⟩] 27)) (.slice A i c) (L.take i)) := P3.out.later (((Turn.refl _ w2).alloc _).alloc _)
      have HSR := Lib.hid (one_row ET 27 (w2.alloc (.cells #[.int .i64 x.1, .string ⟨x.2.toArray⟩] 27)) x)
      have HTA : Hid (Turn (fun _ => False) w2 ((w2.alloc (.cells #[.int .i64 x.1, .string ⟨x.2.toArray⟩] 27)).alloc (.cells #[.int .i64 x.1, .string ⟨x.2.toArray⟩] 27))) := ((Turn.refl _ w2).alloc _).alloc _
      rw [World.size_alloc] at HSR
      go_wp2_with (at_builtin; refine wpList_things _ rfl _ _ rfl _ (L.take i) rfl HOA.out _ rfl [x] HSR.out (by simp only [List.length_cons, List.length_nil, hti]; omega) ?_; intro A3 n3 c3 w3 ho ht hn; have HO3 := Lib.hid ho; have HT3 := Lib.hid ht; have HN3 := Lib.hid hn; clear ho ht hn)
      go_roundw
      case rel => exact ⟨i + 1, by go_num, hlt, drain_step P1.out P2.out HTK.out HTA.out HO3.out HT3.out HN3.out H4.out hle2.out P4.out HLT.out.1 (fun k hk => (HLT.out.2 k hk).1)⟩
      case measure => simp [intOf]; omega
    · obtain rfl : i = L.length := by omega
      go_wp2
      go_ret
      rw [List.take_length] at H3
      exact ⟨_, rfl, H3.out, H4.out, H5.out⟩

end Go.Proofs.Ythhlppdphcjlnaa.plw
