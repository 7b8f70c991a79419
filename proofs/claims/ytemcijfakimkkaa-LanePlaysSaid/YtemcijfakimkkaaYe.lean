
/-
  Stage 8: the program's lanes: Drain.
-/
import Derived.Test.YtemcijfakimkkaaYd
namespace Go.Proofs.Ytemcijfakimkkaa
open Go.RowKit Go.Conc Go.ChangeShapes Go.WideShapes Go.Deep

set_option maxRecDepth 100000

theorem wpList_nums8 (w : World) {ops : Array Oper} {rest : List Oper} {o : Oper} {a : Act} {Q : Exit → Act → World → Prop} (hgd : o.guard = none) (s x : Operand)
    (ho : o.op = .call { callee := .builtin .append, args := #[s, x], argTypes := #[35, 35] }) (v : Value) (l : List Int) (hs : a.eval s = v) (hown : OwE E8 2 w v l)
    (y : Value) (hx : a.eval x = y) (m : List Int) (hy : RdE E8 w y m) (hl : l.length + m.length ≤ 3000000)
    (h : ∀ A n c w', OwE E8 2 w' (.slice A n c) (l ++ m) → Turn (fun k => v.ownBlock = some k) w w' → ((Value.slice A n c).ownBlock = v.ownBlock ∨ (Value.slice A n c).ownBlock = some w.heap.size) → wpList Try.prog ops Q rest (a.put o.dst (.slice A n c)) w') :
    wpList Try.prog ops Q (o :: rest) a w :=
  wpList_appE Try.underlying35 num_info8 num_zero8 w hgd s x _ ho v l hs hown y hx m (hy.src Try.underlying35) (by simp only [maxLen]; omega) (by omega) h
theorem made_nums8 (N : Nat) (hN : N ≤ 1000000) (w : World) : (Instr.makeSlice 35 (.int .i64 0) (.int .i64 (N : Int))).run Try.prog w = .ok (.slice (some ⟨w.heap.size, 0, none⟩) 0 N) (w.alloc (.cells (madeCells (Value.cells (.int .i64 0)) N) 2)) := by
  obtain ⟨i, hi, hz, h1, h2⟩ := info_parts num_info8
  have h := run_make (P := Try.prog) w 35 2 i _ Try.underlying35 hi hz .i64 .i64 0 (N : Int) (Int.le_refl _) (by omega) (by rw [h2]; omega) (by omega)
  rw [h1, show ((N : Int)).toNat = N from Int.toNat_natCast N] at h
  rw [show N * E8.sz = N from Nat.mul_one N] at h
  exact h
theorem own_made8 (N : Nat) (hN : N ≤ 1000000) (w : World) : OwE E8 2 (w.alloc (.cells (madeCells (Value.cells (.int .i64 0)) N) 2)) (.slice (some ⟨w.heap.size, 0, none⟩) 0 N) [] :=
  OwE.of_box (E := E8) (L := []) (c := N) (Box.new w _ _) (Nat.zero_le _) (by simp only [maxLen]; omega) (by rw [size_madeCells]; exact (Nat.mul_one N).symm) (by simp [El.flat])

/-- Some things taken, and put into a row. -/
def Dr8 (w : World) (c room s r : Nat) (ps : List (Nat × Int)) (k : Nat) (v : Value) (W : World) : Prop :=
  W.heap[c]? = some (.chan room ((ps.drop k).map (fun p => Value.pointer (some ⟨p.1, 0, none⟩))).toArray false s (r + k) false) ∧ OwE E8 2 W v ((ps.take k).map (·.2)) ∧ (∀ b, v.ownBlock = some b → w.heap.size ≤ b) ∧ Turn (fun k => k = c) w W
theorem Dr8.step {w W w3 : World} {c room s r k b : Nat} {ps : List (Nat × Int)} {v v3 : Value} {x : Int} (h : Dr8 w c room s r ps k v W) (hc : c < w.heap.size) (hp : ps[k]? = some (b, x))
    (buf : Array Value) (hbuf : buf = ((ps.drop k).map (fun p => Value.pointer (some ⟨p.1, 0, none⟩))).toArray)
    (ho : OwE E8 2 w3 v3 ((ps.take k).map (·.2) ++ [x])) (ht : Turn (fun k => v.ownBlock = some k) ((W.setChan c room (buf.extract 1 buf.size) false s (r + k + 1) false).alloc (.cells #[.int .i64 x] 2)) w3)
    (hn : v3.ownBlock = v.ownBlock ∨ v3.ownBlock = some ((W.setChan c room (buf.extract 1 buf.size) false s (r + k + 1) false).alloc (.cells #[.int .i64 x] 2)).heap.size) : Dr8 w c room s r ps (k + 1) v3 w3 := by
  obtain ⟨h1, h2, h3, h4⟩ := h
  have hcW : c < W.heap.size := Nat.lt_of_lt_of_le hc h4.size
  have htk : ps.take (k + 1) = ps.take k ++ [(b, x)] := by
    obtain ⟨h0, e⟩ := List.getElem?_eq_some_iff.1 hp
    rw [List.take_succ_eq_append_getElem h0, e]
  have hdr : ps.drop k = (b, x) :: ps.drop (k + 1) := by
    obtain ⟨h0, e⟩ := List.getElem?_eq_some_iff.1 hp
    rw [List.drop_eq_getElem_cons h0, e]
  have hsz : w.heap.size ≤ ((W.setChan c room (buf.extract 1 buf.size) false s (r + k + 1) false).alloc (.cells #[.int .i64 x] 2)).heap.size := by
    rw [World.size_alloc, size_setChan]; exact Nat.le_succ_of_le h4.size
  refine ⟨?_, by rw [htk, List.map_append]; exact ho, fun b hb => ?_, ?_⟩
  · rw [ht.block c (by rw [World.size_alloc, size_setChan]; omega) (fun e => by have := h3 c e; omega), Below.heap_alloc _ _ c (by rw [size_setChan]; exact hcW), heap_setChan _ _ _ _ _ _ _ _ hcW, hbuf, hdr, ← Nat.add_assoc]
    simp
    exact List.take_of_length_le (by simp)
  · rcases hn with e | e
    · exact h3 b (by rw [← e]; exact hb)
    · rw [hb] at e
      cases e
      exact hsz
  · exact ((Turn.setChan (S := fun k => k = c) h4 (fun _ => rfl) _ _ _ _ _ _).alloc _).trans ht (fun k hk e => by have := h3 k e; omega)
/-- Behind a Drain. -/
def Drained8 (w : World) (g ar : Nat) (cs : List Nat) (room : Nat) (l : List Int) (LL : List (List Int)) (e : Ending) (w' : World) : Prop :=
  ∃ v, e = .returned v ∧ OwE E8 2 w' v l ∧ (∀ k, v.ownBlock = some k → w.heap.size ≤ k) ∧ LP w' g ar cs room LL ∧ Turn (fun k => k ∈ cs) w w'

set_option maxHeartbeats 4000000 in
theorem drain_yes {g ar room : Nat} {cs : List Nat} {LL : List (List Int)} {w : World} (h : LP w g ar cs room LL) {j : Nat} {l : List Int} (hj : LL[j]? = some l) : Calls Try.prog 15 #[.pointer (some ⟨g, 0, none⟩), .int .i64 (j : Int)] w fun e w' => Drained8 w g ar cs room l (LL.set j []) e w' := by
  obtain ⟨c, hcj, hjl, ⟨ps, s, r, h1, h2, h3⟩, hc⟩ := h.lane hj
  have hl64 : l.length ≤ 64 := Nat.le_trans (h.full l (List.mem_of_getElem? hj)) h.small
  have hpl : ps.length = l.length := by rw [← h2]; simp
  have HP := Lib.hid h
  have hclt : c < w.heap.size := (Array.getElem?_eq_some_iff.1 h1).1
  have HCS : Hid (∀ W, Turn (fun k => k = c) w W → (W.cell? ⟨g, 0, none⟩ = some (.slice (some ⟨ar, 0, none⟩) cs.length cs.length) ∧ W.cell? ⟨ar, j, none⟩ = some (.chan (some c))) ∧ ∀ p ∈ ps, Box W p.1 2 #[.int .i64 p.2]) := fun W ht => by
    have hm : c ∈ cs := List.mem_of_getElem? hcj
    refine ⟨⟨(h.obj.turn ht (fun e => h.ne_box h.obj (e ▸ hm))).cell 0, ?_⟩, fun p hp => (h3 p hp).turn ht (fun e => by rw [← e] at h1; cases h1.symm.trans (h3 p hp))⟩
    have hd := World.block_lt_of_cell? w _ hc
    rw [ht.cell hd (fun e => h.ne_box h.row ((show ar = c from e) ▸ hm))]
    exact hc
  have hmk := made_nums8 l.length (by omega)
  have hsz : (ps.map (fun p => Value.pointer (some ⟨p.1, 0, none⟩))).toArray.size = l.length := by rw [← hpl]; simp
  have HLEN : Hid (∀ W, Turn (fun _ => False) w W → Calls Try.prog 11 #[.pointer (some ⟨g, 0, none⟩), .int .i64 (j : Int)] W fun e w' => e = .returned (.int .i64 (l.length : Int)) ∧ W = w') := fun W ht => by
    obtain ⟨⟨x1, x2⟩, -⟩ := HCS.out W (ht.mono (fun _ _ f => f.elim))
    have h := len_yes g ar c room s r _ _ j _ W x1 hjl x2 ((ht.block c hclt (fun f => f)).trans h1)
    rw [hsz] at h
    exact h
  have HD0 : Hid (Dr8 w c room s r ps 0 (.slice (some ⟨w.heap.size, 0, none⟩) 0 l.length) (w.alloc (.cells (madeCells (Value.cells (.int .i64 0)) l.length) 2))) :=
    ⟨by rw [Below.heap_alloc w _ c hclt]; exact h1, own_made8 l.length (by omega) w, fun b hb => Nat.le_of_eq (by simpa [Value.ownBlock] using hb), (Turn.refl _ w).alloc _⟩
  have H2 := Lib.hid h2
  have HCJ := Lib.hid hcj
  have HJ := Lib.hid hj
  have HSZ := Lib.hid hsz
  have HPL := Lib.hid hpl
  clear h h1 h2 h3 hc hcj hj hsz hpl
  go_enter Try.func15, Try.ntmps15
  go_wp2_with (first
    | (go_at_call 11; refine (HLEN.out _ (Turn.refl _ w)).mono ?_; rintro e w2 ⟨rfl, rfl⟩)
    | (go_at_call 11; refine (HLEN.out _ ((Turn.refl _ w).alloc _)).mono ?_; rintro e w2 ⟨rfl, rfl⟩)
    | fail)
  clear hmk
  go_loopw [5, 15] (fun x5 x15 wr => ∃ i : Nat, x15 = .int .i64 (i : Int) ∧ i ≤ l.length ∧ Dr8 w c room s r ps i x5 wr) (fun _ x15 _ => l.length - (intOf x15).toNat)
  case atStart => exact ⟨0, rfl, Nat.zero_le _, HD0.out⟩
  case round =>
    obtain ⟨i, rfl, hi, hm⟩ := hrel
    have HM := Lib.hid hm
    obtain ⟨A, cp, hv⟩ := hm.2.1.shape
    have hti : ((ps.take i).map (·.2)).length = i := by rw [List.length_map, List.length_take, HPL.out]; omega
    rw [hti] at hv
    subst hv
    clear hm
    by_cases hlt : i < l.length
    · have hli : (i : Int) < l.length := by omega
      obtain ⟨⟨b, x⟩, hp⟩ : ∃ p, ps[i]? = some p := ⟨_, List.getElem?_eq_getElem (by rw [HPL.out]; exact hlt)⟩
      have hdr : ps.drop i = (b, x) :: ps.drop (i + 1) := by
        obtain ⟨h0, e⟩ := List.getElem?_eq_some_iff.1 hp
        rw [List.drop_eq_getElem_cons h0, e]
      obtain ⟨buf, hbuf⟩ : ∃ buf, buf = ((ps.drop i).map (fun p => Value.pointer (some ⟨p.1, 0, none⟩))).toArray := ⟨_, rfl⟩
      obtain ⟨w1, hw1⟩ : ∃ w1, w1 = wr.setChan c room (buf.extract 1 buf.size) false s (r + i + 1) false := ⟨_, rfl⟩
      have ht1 : Turn (fun k => k = c) w w1 := by rw [hw1]; exact Turn.setChan (S := fun k => k = c) HM.out.2.2.2 (fun _ => rfl) _ _ _ _ _ _
      have hx1 := ((HCS.out w1 ht1).2 (b, x) (List.mem_of_getElem? hp)).cell 0
      have hsm : (ps.drop i).length = ps.length - i := List.length_drop
      have HFR : Hid (Calls Try.prog 14 #[.pointer (some ⟨g, 0, none⟩), .int .i64 (j : Int)] wr fun e w' => e = .returned (.tuple #[.int .i64 x, .bool true]) ∧ w' = w1) := by
        rw [hw1]
        rw [hw1] at hx1
        exact from_some g ar c room s (r + i) _ _ j b x buf wr (HCS.out wr HM.out.2.2.2).1.1 hjl (HCS.out wr HM.out.2.2.2).1.2 (by rw [hbuf]; exact HM.out.1) (by rw [hbuf]; simp [hdr]) (by rw [hbuf]; simp [hdr]) hx1
      have HST : Hid (∀ A3 n3 c3 w3, OwE E8 2 w3 (.slice A3 n3 c3) ((ps.take i).map (·.2) ++ [x]) → Turn (fun k => (Value.slice A i cp).ownBlock = some k) (w1.alloc (.cells #[.int .i64 x] 2)) w3 → ((Value.slice A3 n3 c3).ownBlock = (Value.slice A i cp).ownBlock ∨ (Value.slice A3 n3 c3).ownBlock = some (w1.alloc (.cells #[.int .i64 x] 2)).heap.size) → Dr8 w c room s r ps (i + 1) (.slice A3 n3 c3) w3) := fun A3 n3 c3 w3 ho ht hn => by
        rw [hw1] at ht hn
        exact HM.out.step hclt hp buf hbuf ho ht hn
      have HO1 : Hid (OwE E8 2 (w1.alloc (.cells #[.int .i64 x] 2)) (.slice A i cp) ((ps.take i).map (·.2))) := by
        have ho : OwE E8 2 w1 (.slice A i cp) ((ps.take i).map (·.2)) := by
          rw [hw1]
          refine HM.out.2.1.turn (S := fun k => k = c) (Turn.setChan (S := fun k => k = c) (Turn.refl _ wr) (fun _ => rfl) _ _ _ _ _ _) (fun k hk e => ?_)
          have := HM.out.2.2.1 k hk
          omega
        exact ho.later ((Turn.refl _ w1).alloc _)
      have HSR := Lib.hid (one_row E8 2 w1 x)
      clear hdr hbuf hw1 ht1 hx1 hsm hp
      go_wp2_with fail
      refine HFR.out.mono ?_
      rintro e w2 ⟨rfl, rfl⟩
      go_wp2_with (at_builtin; refine wpList_nums8 _ rfl _ _ rfl _ _ rfl HO1.out _ rfl [x] HSR.out (by simp only [List.length_cons, List.length_nil, hti]; omega) ?_; intro A3 n3 c3 w3 ho ht hn; have HD3 := Lib.hid (HST.out _ _ _ _ ho ht hn); clear ho ht hn)
      go_roundw
      case rel => exact ⟨i + 1, by go_num, hlt, HD3.out⟩
      case measure => simp [intOf]; omega
    · obtain rfl : i = l.length := by omega
      go_wp2
      go_ret
      obtain ⟨d1, d2, d3, d4⟩ := HM.out
      rw [← HPL.out, List.take_length, H2.out] at d2
      rw [List.drop_of_length_le (by rw [HPL.out]; exact Nat.le_refl _)] at d1
      rw [HPL.out] at d2
      exact ⟨_, rfl, d2, d3, HP.out.set HCJ.out d4 ⟨[], _, _, d1, rfl, fun p hp => by cases hp⟩ (Nat.zero_le _), d4.mono (fun k _ e => by rw [e]; exact List.mem_of_getElem? HCJ.out)⟩

/-- Drain of what is no lane: nothing. -/
theorem drain_none (pv nv : Value) (w : World) (hlen : ∀ W, Turn (fun _ => False) w W → Calls Try.prog 11 #[pv, nv] W fun e w' => e = .returned (.int .i64 0) ∧ W = w') :
    Calls Try.prog 15 #[pv, nv] w fun e w' => e = .returned (.slice (some ⟨w.heap.size, 0, none⟩) 0 0) ∧ w' = w.alloc (.cells (madeCells (Value.cells (.int .i64 0)) 0) 2) := by
  have HLEN := Lib.hid hlen
  have hmk : ∀ W, (Instr.makeSlice 35 (.int .i64 0) (.int .i64 0)).run Try.prog W = .ok (.slice (some ⟨W.heap.size, 0, none⟩) 0 0) (W.alloc (.cells (madeCells (Value.cells (.int .i64 0)) 0) 2)) := fun W => made_nums8 0 (by omega) W
  clear hlen
  go_enter Try.func15, Try.ntmps15
  go_wp2_with (first
    | (go_at_call 11; refine (HLEN.out _ (Turn.refl _ w)).mono ?_; rintro e w2 ⟨rfl, rfl⟩)
    | (go_at_call 11; refine (HLEN.out _ ((Turn.refl _ w).alloc _)).mono ?_; rintro e w2 ⟨rfl, rfl⟩)
    | fail)
  clear hmk
  go_loopw [5, 15] (fun x5 x15 wr => x15 = .int .i64 0 ∧ x5 = .slice (some ⟨w.heap.size, 0, none⟩) 0 0 ∧ wr = w.alloc (.cells (madeCells (Value.cells (.int .i64 0)) 0) 2)) (fun _ _ _ => 0)
  case atStart => exact ⟨rfl, rfl, rfl⟩
  case round =>
    obtain ⟨rfl, rfl, rfl⟩ := hrel
    go_wp2
    go_ret
    exact ⟨rfl, rfl⟩
theorem lp_drain {g ar room : Nat} {cs : List Nat} {LL : List (List Int)} {w : World} (i : Int) (h : LP w g ar cs room LL) : Calls Try.prog 15 #[.pointer (some ⟨g, 0, none⟩), .int .i64 i] w fun e w' => Drained8 w g ar cs room (drainV LL i) (drainL LL i) e w' := by
  unfold drainV drainL
  rcases at8_cases LL i with ⟨e0, hi⟩ | ⟨j, l, rfl, hj, e0⟩
  · rw [e0]
    refine (drain_none _ _ w (fun W ht => ?_)).mono ?_
    · have := lp_len i (h.later ht)
      unfold lenN at this
      rw [e0] at this
      exact this
    · rintro e w' ⟨rfl, rfl⟩
      exact ⟨_, rfl, own_made8 0 (by omega) w, (fun k hk => Nat.le_of_eq (by simpa [Value.ownBlock] using hk)), h.later ((Turn.refl _ w).alloc _), (Turn.refl _ w).alloc _⟩
  · rw [e0, Int.toNat_natCast]
    exact drain_yes h hj
theorem drain_nil8 (i : Int) (w : World) : Calls Try.prog 15 #[.pointer none, .int .i64 i] w fun e w' => e = .returned (.slice (some ⟨w.heap.size, 0, none⟩) 0 0) ∧ w' = w.alloc (.cells (madeCells (Value.cells (.int .i64 0)) 0) 2) :=
  drain_none _ _ w (fun W _ => len_nil8 i W)

end Go.Proofs.Ytemcijfakimkkaa
