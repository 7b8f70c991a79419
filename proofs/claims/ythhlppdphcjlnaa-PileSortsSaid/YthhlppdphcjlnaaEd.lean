
/-
  The document's pile: Pop, Sort; items held against each other.
-/
import Derived.Test.YthhlppdphcjlnaaEc
namespace Go.Proofs.Ythhlppdphcjlnaa
open Go.RowKit Go.ChangeShapes Go.WideShapes Go.Deep

/-- Behind the document's Pop. -/
def RPopped (w : World) (g : Nat) (sv : Value) (L : List (Int × List UInt8)) (v : Value) (e : Ending) (w' : World) : Prop :=
  e = .returned v ∧ ∃ sv', RP w' g sv' L ∧ Turn (fun k => k = g) w w' ∧ ∀ k, sv'.ownBlock = some k → sv.ownBlock = some k
theorem rpop_post {w wa wb : World} {g : Nat} {ad : Addr} {c : Nat} {x : Int × List UInt8} {R : List (Int × List UInt8)} {sv' v : Value} {e : Ending} (h : RP w g (.slice (some ad) (R.length + 1) c) (x :: R)) (ha : Turn (fun _ => False) w wa) (hv : TailE EI (some ad) (R.length + 1) c 1 sv')
    (hb : Turn (fun k => w.heap.size ≤ k) (wa.setCell ⟨g, 0, none⟩ sv') wb) (he : e = .returned v) : RPopped w g (.slice (some ad) (R.length + 1) c) R v e wb := by
  have hlt := h.obj.lt
  have hne : ad.block ≠ g := fun e => h.far (by rw [← e]; rfl)
  have hal : ad.block < w.heap.size := by
    obtain ⟨p, hp⟩ : ∃ p, (x :: R)[0]? = some p := ⟨_, rfl⟩
    obtain ⟨ad', hA, hc⟩ := h.row.cells hp
    cases hA
    have := World.block_lt_of_cell? w _ (hc 0 _ rfl)
    rwa [eadd_block] at this
  have hrd : RdE EI wa sv' ((x :: R).drop 1) := tailE_rd (A := some ad) (c := c) (U := 1) (L := x :: R) h.row (by simp) wa ha hv
  have hown : ∀ k, sv'.ownBlock = some k → ad.block = k := fun k hk => by
    rcases hv with ⟨h0, _⟩ | ⟨ad', h0, _, rfl⟩ | ⟨ad', h0, _, rfl⟩
    · cases h0
    · cases h0
      have : (ad.add (1 * EI.sz)).block = k := by simpa [Value.ownBlock] using hk
      rwa [eadd_block] at this
    · cases h0
      simpa [Value.ownBlock] using hk
  have h1 : RP (wa.setCell ⟨g, 0, none⟩ sv') g sv' R := by
    refine ⟨(h.obj.turn ha (fun f => f)).set 0 sv', hrd.turn (S := fun k => k = g) (Turn.setCell (S := fun k => k = g) (p := ⟨g, 0, none⟩) (Turn.refl _ wa) (fun _ => rfl) _) (fun b hb e => hne (by rw [hown b hb, e])), fun e => hne (hown g e)⟩
  refine ⟨he, sv', h1.turn hb (by omega) (fun k hk => by have := hown k hk; omega), (Turn.setCell (S := fun k => k = g) (p := ⟨g, 0, none⟩) (ha.mono (fun _ _ f => f.elim)) (fun _ => rfl) _).trans hb (fun k hk e => absurd hk (by omega)), fun k hk => by rw [← hown k hk]; rfl⟩

set_option maxRecDepth 100000 in
set_option maxHeartbeats 2000000 in
theorem ref_pop0 (g : Nat) (sv : Value) (w : World) (h : RP w g sv []) :
    Calls Try.prog 13 #[.pointer (some ⟨g, 0, none⟩)] w fun e w' => RPopped w g sv [] (.tuple #[.agg #[.int .i64 0, .string ⟨#[]⟩], .bool false]) e w' := by
  have HM := Lib.hid h
  obtain ⟨A, c, rfl⟩ := h.row.shape
  have c0 := (h.obj.alloc (.cells #[.int .i64 0, .string ⟨#[]⟩] 27)).cell 0
  clear h
  go_enter Try.func13, Try.ntmps13
  go_wp2_with fail
  refine bodyPost_ret (v := .tuple #[.agg #[.int .i64 0, .string ⟨#[]⟩], .bool false]) ?_ rfl ⟨rfl, _, HM.out.later ((Turn.refl _ w).alloc _), (Turn.refl _ w).alloc _, fun k e => e⟩
  rw [results_cell_tmp rfl]
  go_simp
set_option maxRecDepth 100000 in
set_option maxHeartbeats 2000000 in
theorem ref_pop7 (g : Nat) (sv : Value) (x : Int × List UInt8) (R : List (Int × List UInt8)) (w : World) (h : RP w g sv (x :: R)) :
    Calls Try.prog 13 #[.pointer (some ⟨g, 0, none⟩)] w fun e w' => RPopped w g sv R (.tuple #[iv x, .bool true]) e w' := by
  have HM := Lib.hid h
  obtain ⟨A, c, rfl⟩ := h.row.shape
  have hf := h.row.fits
  obtain ⟨ad, rfl, hc⟩ := item_at h.row (j := 0) rfl
  have hc1 := hc _ ((Turn.refl _ w).alloc (.cells #[.int .i64 0, .string ⟨#[]⟩] 27))
  rw [show ad.add (0 * 2) = ad from rfl] at hc1
  obtain ⟨x0, x1⟩ := hc1
  have c0 := (h.obj.alloc (.cells #[.int .i64 0, .string ⟨#[]⟩] 27)).cell 0
  have g0 := ((h.obj.alloc (.cells #[.int .i64 0, .string ⟨#[]⟩] 27)).alloc (.cells #[.int .i64 x.1, .string ⟨x.2.toArray⟩] 27)).cell 0
  have g1 := ((h.obj.alloc (.cells #[.int .i64 0, .string ⟨#[]⟩] 27)).alloc (.cells #[.int .i64 x.1, .string ⟨x.2.toArray⟩] 27)).free 0
  have hgl : g ≠ w.heap.size := Nat.ne_of_lt h.obj.lt
  have hgl2 : g ≠ w.heap.size + 1 := Nat.ne_of_lt (Nat.lt_succ_of_lt h.obj.lt)
  have hr0 : (0 : Int) < (R.length : Int) + 1 := by omega
  have hr1 : (1 : Int) ≤ (R.length : Int) + 1 := by omega
  have hcc : (1 : Int) ≤ c := by have := hf.2.1; simp at this; omega
  have hrc : (R.length : Int) + 1 ≤ c := by have := hf.2.1; simp at this; omega
  unfold iv
  clear h hc hf
  by_cases hc1 : c ≤ 1
  · have hce : c = 1 := by omega
    subst hce
    go_enter Try.func13, Try.ntmps13
    go_wp2_with fail
    refine bodyPost_ret (v := .tuple #[.agg #[.int .i64 x.1, .string ⟨x.2.toArray⟩], .bool true]) ?_ rfl (rpop_post HM.out (((Turn.refl _ w).alloc (.cells #[.int .i64 0, .string ⟨#[]⟩] 27)).alloc (.cells #[.int .i64 x.1, .string ⟨x.2.toArray⟩] 27)) (.inr (.inr ⟨ad, rfl, hc1, rfl⟩))
      (Turn.setCell (S := fun j => w.heap.size ≤ j) (p := ⟨w.heap.size, 1, none⟩) (Turn.setCell (S := fun j => w.heap.size ≤ j) (p := ⟨w.heap.size, 0, none⟩) (Turn.refl _ _) (fun _ => Nat.le_refl _) (.int .i64 x.1)) (fun _ => Nat.le_refl _) (.string ⟨x.2.toArray⟩)) rfl)
    rw [results_cell_tmp rfl]
    go_simp
  · have hcn : ¬ c - 1 = 0 := by omega
    have hcn2 : ¬ c = 1 := by omega
    go_enter Try.func13, Try.ntmps13
    go_wp2_with fail
    refine bodyPost_ret (v := .tuple #[.agg #[.int .i64 x.1, .string ⟨x.2.toArray⟩], .bool true]) ?_ rfl (rpop_post HM.out (((Turn.refl _ w).alloc (.cells #[.int .i64 0, .string ⟨#[]⟩] 27)).alloc (.cells #[.int .i64 x.1, .string ⟨x.2.toArray⟩] 27)) (.inr (.inl ⟨ad, rfl, hc1, rfl⟩))
      (Turn.setCell (S := fun j => w.heap.size ≤ j) (p := ⟨w.heap.size, 1, none⟩) (Turn.setCell (S := fun j => w.heap.size ≤ j) (p := ⟨w.heap.size, 0, none⟩) (Turn.refl _ _) (fun _ => Nat.le_refl _) (.int .i64 x.1)) (fun _ => Nat.le_refl _) (.string ⟨x.2.toArray⟩)) rfl)
    rw [results_cell_tmp rfl]
    go_simp

/-- Behind the document's Sort. -/
def RSorted (w : World) (L : List (Int × List UInt8)) (e : Ending) (w' : World) : Prop := ∃ v, e = .returned v ∧ RdE EI w' v L ∧ Turn (fun _ => False) w w'
/-- Some things put, of a list that is sorted. -/
def RSorting (w : World) (g : Nat) (l : List (Int × List UInt8)) (i : Nat) (wr : World) : Prop :=
  ∃ sv, RP wr g sv (sortS ltW (l.take i)) ∧ Turn (fun _ => False) w wr

set_option maxRecDepth 100000 in
set_option maxHeartbeats 4000000 in
theorem ref_sort7 (lv : Value) (l : List (Int × List UInt8)) (w : World) (h : RdE EI w lv l) (hl : l.length ≤ 100000) :
    Calls Try.prog 19 #[lv] w fun e w' => RSorted w (sortS ltW l) e w' := by
  have HL := Lib.hid h
  obtain ⟨A, c, rfl⟩ := h.shape
  clear h
  have HS0 : Hid (RSorting w w.heap.size l 0 (w.alloc (.cells #[.slice none 0 0] 32))) := ⟨_, ⟨Box.new w _ _, RdE.nil _, by simp [Value.ownBlock]⟩, (Turn.refl _ w).alloc _⟩
  go_enter Try.func19, Try.ntmps19
  go_wp2_with fail
  go_loopw [4] (fun x4 wr => ∃ i : Nat, x4 = .int .i64 (i : Int) ∧ i ≤ l.length ∧ RSorting w w.heap.size l i wr) (fun x4 _ => l.length - (intOf x4).toNat)
  case atStart => exact ⟨0, rfl, Nat.zero_le _, HS0.out⟩
  case round =>
    obtain ⟨i, rfl, hi, sv, h1, h2⟩ := hrel
    have H1 := Lib.hid h1; have H2 := Lib.hid h2
    clear h1 h2
    by_cases hlt : i < l.length
    · obtain ⟨x, hx⟩ : ∃ x, l[i]? = some x := ⟨_, List.getElem?_eq_getElem hlt⟩
      have htk : l.take (i + 1) = l.take i ++ [x] := by
        obtain ⟨h0, e⟩ := List.getElem?_eq_some_iff.1 hx
        rw [List.take_succ_eq_append_getElem h0, e]
      have hsl : (sortS ltW (l.take i)).length ≤ 1000000 := by rw [(sortS_perm _).length_eq, List.length_take]; omega
      obtain ⟨ad, rfl, hc⟩ := item_at HL.out hx
      obtain ⟨e0, e1⟩ := hc wr H2.out
      have HPU := Lib.hid (ref_push7 w.heap.size sv _ x wr H1.out hsl)
      have HTK := Lib.hid htk
      clear htk hx hc hsl
      have hil : (i : Int) < l.length := by omega
      go_wp2_with fail
      refine HPU.out.mono ?_
      rintro e w2 ⟨⟨v, rfl⟩, sv2, p1, p2, p3⟩
      have HST : Hid (RSorting w w.heap.size l (i + 1) w2) := ⟨sv2, by rw [HTK.out, sortS_snoc]; exact p1, H2.out.trans p2 (fun k hk e => by omega)⟩
      clear p1 p2 p3
      go_wp2
      go_roundw
      case rel => exact ⟨i + 1, by go_num, hlt, HST.out⟩
      case measure => simp [intOf]; omega
    · obtain rfl : i = l.length := by omega
      have h1 := H1.out
      rw [List.take_length] at h1
      have HR := Lib.hid h1.row
      have c0 := h1.obj.cell 0
      clear h1
      go_wp2_with fail
      go_ret
      exact ⟨_, rfl, HR.out, H2.out⟩

set_option maxRecDepth 100000 in
set_option maxHeartbeats 4000000 in
/-- Two lists that hold the same are the same. -/
theorem same_refl7 (a b : Value) (L : List (Int × List UInt8)) (w : World) (ha : RdE EI w a L) (hb : RdE EI w b L) (hl : L.length ≤ 1000000) :
    Calls Try.prog 16 #[a, b] w fun e w' => e = .returned (.bool true) ∧ Turn (fun _ => False) w w' := by
  have HA := Lib.hid ha; have HB := Lib.hid hb
  obtain ⟨A, c, rfl⟩ := ha.shape
  obtain ⟨B, d, rfl⟩ := hb.shape
  clear ha hb
  go_enter Try.func16, Try.ntmps16
  go_wp2_with fail
  go_loopw [5] (fun x5 wr => ∃ i : Nat, x5 = .int .i64 (i : Int) ∧ i ≤ L.length ∧ ∃ n, wr = w.drewN n) (fun x5 _ => L.length - (intOf x5).toNat)
  case atStart => exact ⟨0, rfl, Nat.zero_le _, 0, rfl⟩
  case round =>
    obtain ⟨i, rfl, hi, n, rfl⟩ := hrel
    by_cases hlt : i < L.length
    · obtain ⟨x, hx⟩ : ∃ x, L[i]? = some x := ⟨_, List.getElem?_eq_getElem hlt⟩
      obtain ⟨ad, rfl, hc⟩ := item_at HA.out hx
      obtain ⟨bd, rfl, hd⟩ := item_at HB.out hx
      obtain ⟨e0, e1⟩ := hc w (Turn.refl _ _)
      obtain ⟨e2, e3⟩ := hd w (Turn.refl _ _)
      clear hc hd hx
      have hil : (i : Int) < L.length := by omega
      go_wp2_with fail
      go_quiet (fail)
      go_wp2
      go_roundw
      case rel => exact ⟨i + 1, by go_num, hlt, n + nq, by simp [World.drewN]⟩
      case measure => simp [intOf]; omega
    · obtain rfl : i = L.length := by omega
      go_wp2
      go_ret
      exact ⟨rfl, (Turn.refl _ w).drewN _⟩

end Go.Proofs.Ythhlppdphcjlnaa
