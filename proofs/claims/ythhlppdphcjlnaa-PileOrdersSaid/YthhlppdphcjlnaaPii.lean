
/-
  The program's pile (things: int64): a row copied, Sorted, Sort.
-/
import Derived.Test.YthhlppdphcjlnaaPhi
import Derived.Laws.EntriesVeiled
import Derived.Lib.SliceRun
namespace Go.Proofs.Ythhlppdphcjlnaa.pli
open Go.RowKit Go.ChangeShapes Go.WideShapes Go.Deep

theorem wpList_items (w : World) {ops : Array Oper} {rest : List Oper} {o : Oper} {a : Act} {Q : Exit → Act → World → Prop} (hgd : o.guard = none) (s x : Operand)
    (ho : o.op = .call { callee := .builtin .append, args := #[s, x], argTypes := #[65, 65] }) (v : Value) (l : List (Int × Nat)) (hs : a.eval s = v) (hown : OwE EN 69 w v l)
    (y : Value) (hx : a.eval x = y) (m : List (Int × Nat)) (hy : RdE EN w y m) (hl : l.length + m.length ≤ 3000000)
    (h : ∀ A n c w', OwE EN 69 w' (.slice A n c) (l ++ m) → Turn (fun k => v.ownBlock = some k) w w' → ((Value.slice A n c).ownBlock = v.ownBlock ∨ (Value.slice A n c).ownBlock = some w.heap.size) → wpList Try.prog ops Q rest (a.put o.dst (.slice A n c)) w') :
    wpList Try.prog ops Q (o :: rest) a w :=
  wpList_appE Try.underlying65 item_info item_zero w hgd s x _ ho v l hs hown y hx m (hy.src Try.underlying65) (by simp only [maxLen]; omega) (by omega) h
/-- Behind a row that was copied. -/
def Copied (w : World) (H : List (Int × Nat)) (e : Ending) (w' : World) : Prop := ∃ v, e = .returned v ∧ NewE EN 69 w w' v H

set_option maxRecDepth 100000 in
set_option maxHeartbeats 2000000 in
theorem clone_any (sv : Value) (H : List (Int × Nat)) (w : World) (h : RdE EN w sv H) (hl : H.length ≤ 1000000) :
    Calls Try.prog 36 #[sv] w fun e w' => Copied w H e w' := by
  have HH := Lib.hid h
  obtain ⟨A, c, rfl⟩ := h.shape
  have hf := h.fits
  clear h
  cases A with
  | none =>
    obtain ⟨rfl, rfl⟩ := hf.2.2.2 rfl
    clear hf
    simp only [List.length_nil] at HH ⊢
    go_enter Try.func36, Try.ntmps36
    have hrun : ∀ W, Sem.run Try.prog (binOp .eql 65 (.slice none 0 0) (.slice none 0 0)) W = .ok (.bool true) W := fun W => Lib.run_eql_slice_nil W _ _ none 0 0 0 0 Try.underlying65
    go_wp2
    go_ret
    exact ⟨_, rfl, OwE.nil _, (fun k e => by simp [Value.ownBlock] at e), Turn.refl _ w⟩
  | some ad =>
    clear hf
    have HN0 := Lib.hid (NewE.empty (E := EN) (e := 69) w w (Turn.refl _ w))
    have HS := Lib.hid (HH.out.later HN0.out.turn)
    go_enter Try.func36, Try.ntmps36
    have hrun : ∀ W, Sem.run Try.prog (binOp .eql 65 (.slice (some ad) H.length c) (.slice none 0 0)) W = .ok (.bool false) W := fun W => Lib.run_eql_slice_nil W _ _ (some ad) H.length c 0 0 Try.underlying65
    go_wp2_with (at_builtin; refine wpList_items _ rfl _ _ rfl _ [] rfl HN0.out.own _ rfl H HS.out (by simp only [List.length_nil]; omega) ?_; intro A3 n3 c3 w3 ho ht hn; have HN3 := Lib.hid (HN0.out.step ho ht hn); clear ho ht hn)
    go_ret
    exact ⟨_, rfl, HN3.out⟩

set_option maxRecDepth 100000 in
set_option maxHeartbeats 4000000 in
theorem sorted_any (g n : Nat) (sv : Value) (L : List Int) (w : World) (h : Mp w g sv L n) (hl : L.length ≤ 100000) :
    Calls Try.prog 24 #[.pointer (some ⟨g, 0, none⟩)] w fun e w' => Drained w (fun _ => False) L e w' := by
  obtain ⟨H, S, hp, hr, hL, hS⟩ := h
  have hHl : H.length ≤ 100000 := by rw [hr.len, ← List.length_map (f := (·.1)), hL]; exact hl
  have HP := Lib.hid hp
  have HM : Hid (∀ W b v, PP W b v H n → Mp W b v L n) := fun W b v hp => ⟨H, S, hp, hr, hL, hS⟩
  obtain ⟨A, c, rfl⟩ := hp.row.shape
  have c0 := hp.obj.cell 0
  have c1 := hp.obj.cell 1
  have c2 := hp.obj.cell 2
  have d1 := (hp.obj.alloc (.cells #[lessV, .slice A H.length c, .int .u64 (n : Int)] 67)).cell 1
  have HB := Lib.hid (Box.new w 67 #[lessV, .slice A H.length c, .int .u64 (n : Int)])
  have HCL := Lib.hid (clone_any (.slice A H.length c) H (w.alloc (.cells #[lessV, .slice A H.length c, .int .u64 (n : Int)] 67)) (hp.row.rd.later ((Turn.refl _ w).alloc _)) (by omega))
  have HDR : Hid (∀ W b v, Mp W b v L n → Calls Try.prog 37 #[.pointer (some ⟨b, 0, none⟩)] W fun e w' => Drained W (fun k => k = b ∨ v.ownBlock = some k) L e w') := fun W b v h => drain_any b n v L W h hl
  clear hp hr hL hS
  go_enter Try.func24, Try.ntmps24
  go_wp2_with (go_at_call 36; refine HCL.out.mono ?_; rintro e w1 ⟨v, rfl, hn⟩; have HN := Lib.hid hn; have HB1 := Lib.hid (HB.out.turn hn.turn (fun f => f)); clear hn; have z0 := HB1.out.cell 1; have z1 := HB1.out.free 1; obtain ⟨A1, c1', hv⟩ := HN.out.own.shape; subst hv)
  have hne : (Value.slice A1 H.length c1').ownBlock ≠ some w.heap.size := HN.out.own.not_box HB1.out (by decide)
  have hnew : ∀ k, (Value.slice A1 H.length c1').ownBlock = some k → w.heap.size ≤ k := fun k hk => Nat.le_trans (Nat.le_of_lt (by simp)) (HN.out.new k hk)
  have hm2 : Mp (w1.setCell ⟨w.heap.size, 1, none⟩ (.slice A1 H.length c1')) w.heap.size (.slice A1 H.length c1') L n :=
    HM.out _ _ _ ⟨HB1.out.set 1 _, HN.out.own.turn (S := fun k => k = w.heap.size) (Turn.setCell (S := fun k => k = w.heap.size) (p := ⟨w.heap.size, 1, none⟩) (Turn.refl _ w1) (fun _ => rfl) _) (fun k hk e => hne (by rw [hk, e]))⟩
  have ht2 : Turn (fun _ => False) w (w1.setCell ⟨w.heap.size, 1, none⟩ (.slice A1 H.length c1')) :=
    Turn.setCell (((Turn.refl _ w).alloc _).trans HN.out.turn (fun _ _ f => f)) (fun e => absurd e (Nat.lt_irrefl _)) _
  refine (HDR.out _ _ _ hm2).mono ?_
  rintro e w5 ⟨v5, rfl, e1, e2, e3⟩
  have HE1 := Lib.hid e1
  have HE2 : Hid (∀ k, v5.ownBlock = some k → w.heap.size ≤ k) := fun k hk => Nat.le_trans ht2.size (e2 k hk)
  have HE3 : Hid (Turn (fun _ => False) w w5) := ht2.trans e3 (fun k hk e => by
    rcases e with e | e
    · omega
    · have := hnew k e; omega)
  clear e1 e2 e3 hm2 ht2 hnew hne
  go_wp2
  go_ret
  exact ⟨_, rfl, HE1.out, HE2.out, HE3.out⟩

/-- Some things pushed, of a list that is sorted. -/
def Sorting (w : World) (g : Nat) (l : List Int) (i : Nat) (wr : World) : Prop :=
  ∃ sv, Mp wr g sv (sortS ltN (l.take i)) i ∧ (∀ k, sv.ownBlock = some k → w.heap.size ≤ k) ∧ Turn (fun _ => False) w wr
theorem sorting_step {w wr w2 wa : World} {g i : Nat} {sv : Value} {l : List Int} {x : Int} {e : Ending} (hg : w.heap.size ≤ g) (htk : l.take (i + 1) = l.take i ++ [x]) (h2 : ∀ k, sv.ownBlock = some k → w.heap.size ≤ k) (h3 : Turn (fun _ => False) w wr)
    (ha : Turn (fun _ => False) wr wa) (hp : Pushed wa g sv (insS ltN x (sortS ltN (l.take i))) (i + 1) e w2) : Sorting w g l (i + 1) w2 := by
  obtain ⟨_, sv2, m1, m2, m3⟩ := hp
  have hwa : w.heap.size ≤ wa.heap.size := Nat.le_trans h3.size ha.size
  refine ⟨sv2, by rw [htk, sortS_snoc]; exact m1, fun k hk => ?_, (h3.trans ha (fun _ _ f => f)).trans m2 (fun k hk e => ?_)⟩
  · rcases m3 k hk with e | e
    · omega
    · exact h2 k e
  · rcases e with e | e
    · omega
    · have := h2 k e; omega
/-- A thing of a row, in memory. -/
theorem et_at {w : World} {A : Option Addr} {n c : Nat} {L : List Int} (h : RdE ET w (.slice A n c) L) {j : Nat} {p : Int} (hj : L[j]? = some p) :
    ∃ ad, A = some ad ∧ ∀ W, Turn (fun _ => False) w W → W.cell? (ad.add j) = some (.int .i64 p) := by
  obtain ⟨ad, hA, _⟩ := h.cells hj
  refine ⟨ad, hA, fun W ht => ?_⟩
  obtain ⟨ad', hA', hc⟩ := (h.later ht).cells hj
  rw [hA] at hA'
  cases hA'
  have h0 := hc 0 _ rfl
  rw [show j * ET.sz + 0 = j from Nat.mul_one j] at h0
  exact h0

set_option maxRecDepth 100000 in
set_option maxHeartbeats 4000000 in
theorem sort_any (lv : Value) (l : List Int) (w : World) (h : RdE ET w lv l) (hl : l.length ≤ 100000) :
    Calls Try.prog 27 #[lv, lessV] w fun e w' => Drained w (fun _ => False) (sortS ltN l) e w' := by
  have HL := Lib.hid h
  have HDR : Hid (∀ W b v n, Mp W b v (sortS ltN l) n → Calls Try.prog 37 #[.pointer (some ⟨b, 0, none⟩)] W fun e w' => Drained W (fun k => k = b ∨ v.ownBlock = some k) (sortS ltN l) e w') :=
    fun W b v n h => drain_any b n v _ W h (by rw [(sortS_perm l).length_eq]; exact hl)
  obtain ⟨A, c, rfl⟩ := h.shape
  clear h
  go_enter Try.func27, Try.ntmps27
  go_wp2_with (go_at_call 20; refine (new_any w).mono ?_; rintro e w1 ⟨rfl, hm, ht⟩; have HM0 := Lib.hid hm; have HT0 := Lib.hid ht; clear hm ht)
  have HS0 : Hid (Sorting w w.heap.size l 0 w1) := ⟨_, HM0.out, (fun k e => by simp [Value.ownBlock] at e), HT0.out⟩
  clear HM0 HT0
  go_loopw [12] (fun x12 wr => ∃ i : Nat, x12 = .int .i64 (i : Int) ∧ i ≤ l.length ∧ Sorting w w.heap.size l i wr) (fun x12 _ => l.length - (intOf x12).toNat)
  case atStart => exact ⟨0, rfl, Nat.zero_le _, HS0.out⟩
  case round =>
    obtain ⟨i, rfl, hi, sv, h1, h2, h3⟩ := hrel
    have H1 := Lib.hid h1; have H2 := Lib.hid h2; have H3 := Lib.hid h3
    clear h1 h2 h3
    by_cases hlt : i < l.length
    · obtain ⟨x, hx⟩ : ∃ x, l[i]? = some x := ⟨_, List.getElem?_eq_getElem hlt⟩
      have htk : l.take (i + 1) = l.take i ++ [x] := by
        obtain ⟨h0, e⟩ := List.getElem?_eq_some_iff.1 hx
        rw [List.take_succ_eq_append_getElem h0, e]
      have hsl : (sortS ltN (l.take i)).length ≤ 100000 := by rw [(sortS_perm _).length_eq, List.length_take]; omega
      obtain ⟨ad, rfl, hc⟩ := et_at HL.out hx
      have HC := Lib.hid (hc wr H3.out)
      have e0 := hc wr H3.out
      have HPU : Hid (∀ W, Turn (fun _ => False) wr W → Calls Try.prog 22 #[.pointer (some ⟨w.heap.size, 0, none⟩), (.int .i64 x)] W fun e w' => Pushed W w.heap.size sv (insS ltN x (sortS ltN (l.take i))) (i + 1) e w') :=
        fun W ht => push_any w.heap.size i sv _ x W (H1.out.later ht) (by omega) hsl
      have HTK := Lib.hid htk
      clear htk hx hc hsl
      have hil : (i : Int) < l.length := by omega
      go_wp2_with fail
      have ht1 : Turn (fun _ => False) wr wr := Turn.refl _ wr
      refine (HPU.out _ ht1).mono ?_
      rintro e w2 hp
      have HST := Lib.hid (sorting_step (Nat.le_refl _) HTK.out H2.out H3.out ht1 hp)
      obtain ⟨⟨v, rfl⟩, -⟩ := hp
      clear ht1
      go_wp2
      go_roundw
      case rel => exact ⟨i + 1, by go_num, hlt, HST.out⟩
      case measure => simp [intOf]; omega
    · obtain rfl : i = l.length := by omega
      have h1 := H1.out
      rw [List.take_length] at h1
      have HDD := Lib.hid (HDR.out _ _ _ _ h1)
      clear h1
      go_wp2_with fail
      refine HDD.out.mono ?_
      rintro e w5 ⟨v5, rfl, e1, e2, e3⟩
      have HE1 := Lib.hid e1
      have HE2 : Hid (∀ k, v5.ownBlock = some k → w.heap.size ≤ k) := fun k hk => Nat.le_trans H3.out.size (e2 k hk)
      have HE3 : Hid (Turn (fun _ => False) w w5) := H3.out.trans e3 (fun k hk e => by
        rcases e with e | e
        · omega
        · have := H2.out k e; omega)
      clear e1 e2 e3
      go_wp2
      go_ret
      exact ⟨_, rfl, HE1.out, HE2.out, HE3.out⟩

end Go.Proofs.Ythhlppdphcjlnaa.pli
