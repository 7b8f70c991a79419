
/-
  Stage 8: the document's lanes: New, From, Take, Drain; numbers held against each other.
-/
import Derived.Test.YtemcijfakimkkaaYg
namespace Go.Proofs.Ytemcijfakimkkaa
open Go.RowKit Go.ChangeShapes Go.WideShapes Go.Deep

set_option maxRecDepth 100000

/-- What a lane's walk reads. -/
abbrev Lane8 (g ar room n j cap : Nat) (A : Option Addr) (l : List Int) (W : World) : Prop :=
  (W.cell? ⟨g, 0, none⟩ = some (.int .i64 (room : Int)) ∧ W.cell? ⟨g, 1, none⟩ = some (.slice (some ⟨ar, 0, none⟩) n n) ∧ W.cell? ⟨ar, j, none⟩ = some (.slice A l.length cap)) ∧ W.frozen? ⟨ar, j, none⟩ = false ∧ RdE E8 W (.slice A l.length cap) l

theorem rfrom_no (g : Nat) (A : Option Addr) (n c : Nat) (i : Int) (w : World) (h0 : w.cell? ⟨g, 1, none⟩ = some (.slice A n c)) (hi : ¬ (0 ≤ i ∧ i < n)) :
    Calls Try.prog 18 #[.pointer (some ⟨g, 0, none⟩), .int .i64 i] w fun e w' => e = .returned (.tuple #[.int .i64 0, .bool false]) ∧ w = w' := by
  have HH := Lib.hid (rhas_no g _ n c i w h0 hi)
  clear h0 hi
  go_enter Try.func18, Try.ntmps18
  go_wp2_with fail
  refine HH.out.mono ?_
  rintro e w2 ⟨rfl, rfl⟩
  go_wp2
  go_ret2
  exact ⟨rfl, rfl⟩
theorem rfrom_none (g ar room n j cap : Nat) (A : Option Addr) (w : World) (hj : j < n) (HS : ∀ W, Turn (fun _ => False) w W → Lane8 g ar room n j cap A [] W) :
    Calls Try.prog 18 #[.pointer (some ⟨g, 0, none⟩), .int .i64 (j : Int)] w fun e w' => e = .returned (.tuple #[.int .i64 0, .bool false]) ∧ w = w' := by
  obtain ⟨⟨c0, c1, c2⟩, -⟩ := HS w (Turn.refl _ w)
  have HH := Lib.hid (rhas_yes g _ n n j w c1 hj)
  have hji : (j : Int) < n := by omega
  rw [List.length_nil] at c2
  clear HS
  go_enter Try.func18, Try.ntmps18
  go_wp2_with fail
  refine HH.out.mono ?_
  rintro e w2 ⟨rfl, rfl⟩
  go_wp2
  go_ret2
  exact ⟨rfl, rfl⟩

set_option maxHeartbeats 4000000 in
theorem rfrom_some (g ar room n j cap : Nat) (ad : Addr) (x : Int) (r : List Int) (w : World) (hj : j < n) (HS : ∀ W, Turn (fun _ => False) w W → Lane8 g ar room n j cap (some ad) (x :: r) W) (B : Option Addr)
    (hB : (if cap = 1 then some ad else some ⟨ad.block, ad.off + 1, none⟩) = B) (hrc : r.length + 1 ≤ cap) :
    Calls Try.prog 18 #[.pointer (some ⟨g, 0, none⟩), .int .i64 (j : Int)] w fun e w' => e = .returned (.tuple #[.int .i64 x, .bool true]) ∧ ∃ W, Turn (fun _ => False) w W ∧ w' = W.setCell ⟨ar, j, none⟩ (.slice B r.length (cap - 1)) := by
  obtain ⟨⟨c0, c1, c2⟩, -, hrd⟩ := HS w (Turn.refl _ w)
  have HSS := Lib.hid HS
  have HH := Lib.hid (rhas_yes g _ n n j w c1 hj)
  have hji : (j : Int) < n := by omega
  rw [List.length_cons] at c2
  obtain ⟨ad', ea, hx⟩ := num_at hrd (j := 0) rfl
  cases ea
  have e0 := hx w (Turn.refl _ w)
  rw [show ad.add 0 = ad from rfl] at e0
  have HSK : Hid (∀ W, Turn (fun _ => False) w W → (W.cell? ⟨g, 0, none⟩ = some (.int .i64 (room : Int)) ∧ W.cell? ⟨g, 1, none⟩ = some (.slice (some ⟨ar, 0, none⟩) n n) ∧ W.cell? ⟨ar, j, none⟩ = some (.slice (some ad) (r.length + 1) cap)) ∧ Turn (fun _ => False) w W) := fun W ht => ⟨(HSS.out W ht).1, ht⟩
  clear HS hrd hx
  have hri : (0 : Int) < (r.length : Int) + 1 := by omega
  have hr1 : (1 : Int) ≤ (r.length : Int) + 1 := by omega
  have hrci : (r.length : Int) + 1 ≤ cap := by omega
  go_enter Try.func18, Try.ntmps18
  go_wp2_with fail
  refine HH.out.mono ?_
  rintro e w2 ⟨rfl, rfl⟩
  go_wp2_with fail
  clear c0 c1 c2 e0
  refine drawn_region (fun W => (W.cell? ⟨g, 0, none⟩ = some (.int .i64 (room : Int)) ∧ W.cell? ⟨g, 1, none⟩ = some (.slice (some ⟨ar, 0, none⟩) n n) ∧ W.cell? ⟨ar, j, none⟩ = some (.slice (some ad) (r.length + 1) cap)) ∧ Turn (fun _ => False) w W) [14] (by kernel_rfl) ?_
  have ht0 : Turn (fun _ => False) w (World.drew w) := (Turn.refl _ w).drew
  generalize World.drew w = wd at *
  have HT0 := Lib.hid ht0
  clear ht0
  have hS0 := HSK.out _ HT0.out
  refine drawn_take 0 31 (.pointer (some ⟨g, 0, none⟩)) rfl rfl (by kernel_rfl) (by kernel_rfl) (by kernel_rfl) (by kernel_rfl) (fun _ _ _ h => h) (by rfl) (by assumption) (by intro w hSw; obtain ⟨⟨hS1, hS2, hS3⟩, hS4⟩ := hSw; go_simp) ?_
  try simp only [List.setIfInBounds_toArray, List.set_cons_zero, List.set_cons_succ]
  refine drawn_take 1 32 (.pointer (some ⟨g, 0, none⟩)) rfl rfl (by kernel_rfl) (by kernel_rfl) (by kernel_rfl) (by kernel_rfl) (fun _ _ _ h => h) (by rfl) (by assumption) (by intro w hSw; obtain ⟨⟨hS1, hS2, hS3⟩, hS4⟩ := hSw; go_simp) ?_
  try simp only [List.setIfInBounds_toArray, List.set_cons_zero, List.set_cons_succ]
  refine drawn_take 2 33 (.pointer (some ⟨g, 1, none⟩)) rfl rfl (by kernel_rfl) (by kernel_rfl) (by kernel_rfl) (by kernel_rfl) (fun _ _ _ h => h) (by rfl) (by assumption) (by intro w hSw; obtain ⟨⟨hS1, hS2, hS3⟩, hS4⟩ := hSw; go_simp) ?_
  try simp only [List.setIfInBounds_toArray, List.set_cons_zero, List.set_cons_succ]
  refine drawn_take 3 34 (.slice (some ⟨ar, 0, none⟩) n n) rfl rfl (by kernel_rfl) (by kernel_rfl) (by kernel_rfl) (by kernel_rfl) (fun _ _ _ h => h) (by rfl) (by assumption) (by intro w hSw; obtain ⟨⟨hS1, hS2, hS3⟩, hS4⟩ := hSw; go_simp) ?_
  try simp only [List.setIfInBounds_toArray, List.set_cons_zero, List.set_cons_succ]
  refine drawn_take 4 35 (.int .i64 (j : Int)) rfl rfl (by kernel_rfl) (by kernel_rfl) (by kernel_rfl) (by kernel_rfl) (fun _ _ _ h => h) (by rfl) (by assumption) (by intro w hSw; obtain ⟨⟨hS1, hS2, hS3⟩, hS4⟩ := hSw; go_simp) ?_
  try simp only [List.setIfInBounds_toArray, List.set_cons_zero, List.set_cons_succ]
  refine drawn_take 5 36 (.pointer (some ⟨g, 0, none⟩)) rfl rfl (by kernel_rfl) (by kernel_rfl) (by kernel_rfl) (by kernel_rfl) (fun _ _ _ h => h) (by rfl) (by assumption) (by intro w hSw; obtain ⟨⟨hS1, hS2, hS3⟩, hS4⟩ := hSw; go_simp) ?_
  try simp only [List.setIfInBounds_toArray, List.set_cons_zero, List.set_cons_succ]
  refine drawn_take 6 37 (.pointer (some ⟨g, 0, none⟩)) rfl rfl (by kernel_rfl) (by kernel_rfl) (by kernel_rfl) (by kernel_rfl) (fun _ _ _ h => h) (by rfl) (by assumption) (by intro w hSw; obtain ⟨⟨hS1, hS2, hS3⟩, hS4⟩ := hSw; go_simp) ?_
  try simp only [List.setIfInBounds_toArray, List.set_cons_zero, List.set_cons_succ]
  refine drawn_take 7 38 (.pointer (some ⟨g, 1, none⟩)) rfl rfl (by kernel_rfl) (by kernel_rfl) (by kernel_rfl) (by kernel_rfl) (fun _ _ _ h => h) (by rfl) (by assumption) (by intro w hSw; obtain ⟨⟨hS1, hS2, hS3⟩, hS4⟩ := hSw; go_simp) ?_
  try simp only [List.setIfInBounds_toArray, List.set_cons_zero, List.set_cons_succ]
  refine drawn_take 8 39 (.slice (some ⟨ar, 0, none⟩) n n) rfl rfl (by kernel_rfl) (by kernel_rfl) (by kernel_rfl) (by kernel_rfl) (fun _ _ _ h => h) (by rfl) (by assumption) (by intro w hSw; obtain ⟨⟨hS1, hS2, hS3⟩, hS4⟩ := hSw; go_simp) ?_
  try simp only [List.setIfInBounds_toArray, List.set_cons_zero, List.set_cons_succ]
  refine drawn_take 9 40 (.int .i64 (j : Int)) rfl rfl (by kernel_rfl) (by kernel_rfl) (by kernel_rfl) (by kernel_rfl) (fun _ _ _ h => h) (by rfl) (by assumption) (by intro w hSw; obtain ⟨⟨hS1, hS2, hS3⟩, hS4⟩ := hSw; go_simp) ?_
  try simp only [List.setIfInBounds_toArray, List.set_cons_zero, List.set_cons_succ]
  refine drawn_take 10 41 (.pointer (some ⟨ar, j, none⟩)) rfl rfl (by kernel_rfl) (by kernel_rfl) (by kernel_rfl) (by kernel_rfl) (fun _ _ _ h => h) (by rfl) (by assumption) (by intro w hSw; obtain ⟨⟨hS1, hS2, hS3⟩, hS4⟩ := hSw; go_simp) ?_
  try simp only [List.setIfInBounds_toArray, List.set_cons_zero, List.set_cons_succ]
  refine drawn_take 11 42 (.slice (some ad) (r.length + 1) cap) rfl rfl (by kernel_rfl) (by kernel_rfl) (by kernel_rfl) (by kernel_rfl) (fun _ _ _ h => h) (by rfl) (by assumption) (by intro w hSw; obtain ⟨⟨hS1, hS2, hS3⟩, hS4⟩ := hSw; go_simp) ?_
  try simp only [List.setIfInBounds_toArray, List.set_cons_zero, List.set_cons_succ]
  refine drawn_take 12 43 (.slice B r.length (cap - 1)) rfl rfl (by kernel_rfl) (by kernel_rfl) (by kernel_rfl) (by kernel_rfl) (fun _ _ _ h => h) (by rfl) (by assumption) (by intro w hSw; obtain ⟨⟨hS1, hS2, hS3⟩, hS4⟩ := hSw; go_simp) ?_
  try simp only [List.setIfInBounds_toArray, List.set_cons_zero, List.set_cons_succ]
  refine drawn_take 13 44 (.pointer (some ⟨ar, j, none⟩)) rfl rfl (by kernel_rfl) (by kernel_rfl) (by kernel_rfl) (by kernel_rfl) (fun _ _ _ h => h) (by rfl) (by assumption) (by intro w hSw; obtain ⟨⟨hS1, hS2, hS3⟩, hS4⟩ := hSw; go_simp) ?_
  try simp only [List.setIfInBounds_toArray, List.set_cons_zero, List.set_cons_succ]
  refine drawn_last (z := 14) rfl (by kernel_rfl) (by kernel_rfl) (by kernel_rfl) (fun K hK => ?_)
  clear hS0
  have hz1 := (HSS.out _ HT0.out).1.2.2
  have hz2 := (HSS.out _ HT0.out).2.1
  go_simp
  refine hK.out _ _ ?_
  clear hK K hz1 hz2
  go_wp2
  go_ret2
  exact ⟨rfl, wd, HT0.out, rfl⟩

/-- From, whatever lane. -/
theorem ref_from8 {g ar room : Nat} {LL : List (List Int)} {w : World} (i : Int) (h : LR w g ar room LL) : Calls Try.prog 18 #[.pointer (some ⟨g, 0, none⟩), .int .i64 i] w fun e w' => e = .returned (.tuple #[.int .i64 (fromX LL i), .bool (fromB LL i)]) ∧ LR w' g ar room (fromL LL i) ∧ Turn (fun k => k = ar) w w' := by
  unfold fromX fromB fromL
  rcases at8_cases LL i with ⟨e0, hi⟩ | ⟨j, l, rfl, hj, e0⟩
  · rw [e0]
    refine (rfrom_no g _ _ _ i w h.head hi).mono ?_
    rintro e w' ⟨rfl, rfl⟩
    exact ⟨rfl, h, Turn.refl _ w⟩
  · obtain ⟨A, c, n, hjn, hn8, hlr, h64, hs⟩ := h.lane hj
    rw [e0, Int.toNat_natCast]
    have hjl : j < LL.length := (List.getElem?_eq_some_iff.1 hj).1
    cases l with
    | nil =>
      refine (rfrom_none g ar room n j c A w hjn hs).mono ?_
      rintro e w' ⟨rfl, rfl⟩
      exact ⟨rfl, h, Turn.refl _ w⟩
    | cons x r =>
      have hrd := (hs w (Turn.refl _ w)).2.2
      have hf := hrd.fits
      rw [List.length_cons] at hf
      cases A with
      | none => cases (hf.2.2.2 rfl).1
      | some ad =>
        refine (rfrom_some g ar room n j c ad x r w hjn hs _ rfl (by omega)).mono ?_
        rintro e w' ⟨rfl, W, ht, rfl⟩
        have hr : RdE E8 W (.slice (if c = 1 then some ad else some ⟨ad.block, ad.off + 1, none⟩) r.length (c - 1)) r := by
          by_cases hc : c = 1
          · rw [if_pos hc, hc]
            have e : r = [] := List.eq_nil_of_length_eq_zero (by omega)
            rw [e]
            exact RdE.none_left _ (by simp) W 0 (Nat.zero_le _)
          · rw [if_neg hc]
            exact (hrd.back 1 (by rw [List.length_cons]; omega)).later ht
        rw [List.length_cons] at hlr
        obtain ⟨h2, t2⟩ := h.stored ⟨W, _, ht, hr, rfl⟩ hjl (by omega)
        exact ⟨rfl, h2, t2⟩

/-- Some lanes looked at, all empty. -/
def LookedR (w : World) (g ar room : Nat) (LL : List (List Int)) (i : Nat) (W : World) : Prop := LR W g ar room LL ∧ (∀ k, k < i → LL[k]? = some []) ∧ Turn (fun k => k = ar) w W
/-- Behind a Take. -/
def TakenR (w : World) (g ar room : Nat) (LL : List (List Int)) (e : Ending) (w' : World) : Prop :=
  e = .returned (.tuple #[.int .i64 (takeI LL), .int .i64 (takeX LL), .bool (takeB LL)]) ∧ LR w' g ar room (takeL LL) ∧ Turn (fun k => k = ar) w w'
theorem rfromV_some {LL : List (List Int)} {i : Nat} {x : Int} {r : List Int} (h : LL[i]? = some (x :: r)) : fromX LL i = x ∧ fromB LL i = true ∧ fromL LL i = LL.set i r := by
  have e := at8_some h
  unfold fromX fromB fromL
  rw [e]
  exact ⟨rfl, rfl, by rw [Int.toNat_natCast]⟩

set_option maxHeartbeats 4000000 in
theorem ref_take8 {g ar room : Nat} {LL : List (List Int)} {w : World} (h : LR w g ar room LL) : Calls Try.prog 17 #[.pointer (some ⟨g, 0, none⟩)] w fun e w' => TakenR w g ar room LL e w' := by
  have HL0 : Hid (LookedR w g ar room LL 0 w) := ⟨h, fun k hk => absurd hk (Nat.not_lt_zero k), Turn.refl _ w⟩
  have hfew := h.len
  clear h
  go_enter Try.func17, Try.ntmps17
  go_wp2
  go_loopw [5] (fun x5 wr => ∃ i : Nat, x5 = .int .i64 (i : Int) ∧ i ≤ LL.length ∧ LookedR w g ar room LL i wr) (fun x5 _ => LL.length - (intOf x5).toNat)
  case atStart => exact ⟨0, rfl, Nat.zero_le _, HL0.out⟩
  case round =>
    obtain ⟨i, rfl, hi, hm⟩ := hrel
    have HM := Lib.hid hm
    have c1 := hm.1.head
    by_cases hlt : i < LL.length
    · have hli : (i : Int) < LL.length := by omega
      obtain ⟨l, hl⟩ : ∃ l, LL[i]? = some l := ⟨_, List.getElem?_eq_getElem hlt⟩
      obtain ⟨A, c, n, -, -, -, -, hs⟩ := hm.1.lane hl
      have c2 := (hs wr (Turn.refl _ wr)).1.2.2
      clear hm hs
      cases l with
      | nil =>
        rw [List.length_nil] at c2
        have HE := Lib.hid hl
        clear hl
        have HM2 : Hid (LookedR w g ar room LL (i + 1) wr) := ⟨HM.out.1, fun k hk => by
          by_cases ek : k = i
          · rw [ek]; exact HE.out
          · exact HM.out.2.1 k (by omega), HM.out.2.2⟩
        go_wp2_with fail
        go_roundw
        case rel => exact ⟨i + 1, by go_num, hlt, HM2.out⟩
        case measure => simp [intOf]; omega
      | cons x r =>
        rw [List.length_cons] at c2
        have hfr := ref_from8 (i : Int) HM.out.1
        obtain ⟨e1, e2, e3⟩ := rfromV_some hl
        rw [e1, e2, e3] at hfr
        have HF := Lib.hid hfr
        have HLOW := Lib.hid (low8_some hl HM.out.2.1)
        have hr0 : (0 : Int) < (r.length : Int) + 1 := by omega
        clear e1 e2 e3 hfr hl
        go_wp2_with fail
        refine HF.out.mono ?_
        rintro e w2 ⟨rfl, h2, t2⟩
        have H2 := Lib.hid h2
        have HT2 : Hid (Turn (fun k => k = ar) w w2) := HM.out.2.2.trans t2 (fun _ _ h => h)
        clear h2 t2
        go_wp2
        go_ret3
        unfold TakenR takeI takeX takeB takeL
        rw [HLOW.out]
        exact ⟨rfl, H2.out, HT2.out⟩
    · obtain rfl : i = LL.length := by omega
      have HLOW : Hid (low8 LL = none) := low8_none (fun l hl => by
        obtain ⟨k, hk, e⟩ := List.getElem_of_mem hl
        have := HM.out.2.1 k hk
        rw [List.getElem?_eq_getElem hk, e] at this
        exact Option.some.inj this)
      clear hm
      go_wp2
      go_ret3
      unfold TakenR takeI takeX takeB takeL
      rw [HLOW.out]
      exact ⟨rfl, HM.out.1, HM.out.2.2⟩

/-- Behind a Drain. -/
def DrainedR (w : World) (g ar room : Nat) (l : List Int) (LL : List (List Int)) (e : Ending) (w' : World) : Prop :=
  ∃ v, e = .returned v ∧ RdE E8 w' v l ∧ LR w' g ar room LL ∧ Turn (fun k => k = ar) w w'
theorem ref_drain8 {g ar room : Nat} {LL : List (List Int)} {w : World} (i : Int) (h : LR w g ar room LL) : Calls Try.prog 20 #[.pointer (some ⟨g, 0, none⟩), .int .i64 i] w fun e w' => DrainedR w g ar room (drainV LL i) (drainL LL i) e w' := by
  unfold drainV drainL
  rcases at8_cases LL i with ⟨e0, hi⟩ | ⟨j, l, rfl, hj, e0⟩
  · rw [e0]
    have HH := Lib.hid (rhas_no g _ _ _ i w h.head hi)
    have HE := Lib.hid h
    clear h hi e0
    go_enter Try.func20, Try.ntmps20
    go_wp2_with fail
    refine HH.out.mono ?_
    rintro e w2 ⟨rfl, rfl⟩
    go_wp2
    go_ret
    exact ⟨_, rfl, RdE.nil w, HE.out, Turn.refl _ w⟩
  · rw [e0, Int.toNat_natCast]
    obtain ⟨A, c, n, hjn, hn8, hlr, h64, hs⟩ := h.lane hj
    have hjl : j < LL.length := (List.getElem?_eq_some_iff.1 hj).1
    have HE := Lib.hid h
    have HN := Lib.hid h.noNum
    obtain ⟨⟨-, c1, c2⟩, c3, hrd⟩ := hs w (Turn.refl _ w)
    have HH := Lib.hid (rhas_yes g _ n n j w c1 hjn)
    have HR := Lib.hid hrd
    have HJ := Lib.hid hjl
    have hji : (j : Int) < n := by omega
    clear h hs e0 hj hrd hjl
    go_enter Try.func20, Try.ntmps20
    go_wp2_with fail
    refine HH.out.mono ?_
    rintro e w2 ⟨rfl, rfl⟩
    go_wp2
    go_ret
    obtain ⟨h2, t2⟩ := HE.out.stored ⟨w, _, Turn.refl _ w, RdE.nil w, rfl⟩ HJ.out (Nat.zero_le _)
    exact ⟨_, rfl, rd_keeps HR.out t2 HN.out, h2, t2⟩

theorem same_refl8 (a b : Value) (L : List Int) (w : World) (ha : RdE E8 w a L) (hb : RdE E8 w b L) (hl : L.length ≤ 1000000) :
    Calls Try.prog 19 #[a, b] w fun e w' => e = .returned (.bool true) ∧ Turn (fun _ => False) w w' := by
  have HA := Lib.hid ha; have HB := Lib.hid hb
  obtain ⟨A, c, rfl⟩ := ha.shape
  obtain ⟨B, d, rfl⟩ := hb.shape
  clear ha hb
  go_enter Try.func19, Try.ntmps19
  go_wp2_with fail
  go_loopw [5] (fun x5 wr => ∃ i : Nat, x5 = .int .i64 (i : Int) ∧ i ≤ L.length ∧ ∃ n, wr = w.drewN n) (fun x5 _ => L.length - (intOf x5).toNat)
  case atStart => exact ⟨0, rfl, Nat.zero_le _, 0, rfl⟩
  case round =>
    obtain ⟨i, rfl, hi, n, rfl⟩ := hrel
    by_cases hlt : i < L.length
    · obtain ⟨x, hx⟩ : ∃ x, L[i]? = some x := ⟨_, List.getElem?_eq_getElem hlt⟩
      obtain ⟨ad, rfl, hc⟩ := num_at HA.out hx
      obtain ⟨bd, rfl, hd⟩ := num_at HB.out hx
      have e0 := hc w (Turn.refl _ _)
      have e2 := hd w (Turn.refl _ _)
      clear hc hd hx
      have hil : (i : Int) < L.length := by omega
      go_wp2_with fail
      go_quiet (fail)
      go_wp2
      go_roundw
      case rel => exact ⟨i + 1, by go_num, hlt, n + nq, by simp [World.drewN]⟩
      case measure => simp [intOf]; omega
    · obtain rfl : i = L.length := by omega
      go_wp2
      go_ret
      exact ⟨rfl, (Turn.refl _ w).drewN _⟩

theorem slice_info8 : (Try.prog.info? 35).map (fun i => (i.zero, i.size, i.bytes)) = some (some (.slice none 0 0), 1, 24) := by kernel_rfl
theorem made_lists8 (N : Nat) (hN : N ≤ 8) (w : World) : (Instr.makeSlice 36 (.int .i64 (N : Int)) (.int .i64 (N : Int))).run Try.prog w = .ok (.slice (some ⟨w.heap.size, 0, none⟩) N N) (w.alloc (.cells (madeCells (Value.cells (.slice none 0 0)) N) 35)) := by
  obtain ⟨i, hi, hz, h1, h2⟩ := info_parts slice_info8
  have h := run_make (P := Try.prog) w 36 35 i _ Try.underlying36 hi hz .i64 .i64 (N : Int) (N : Int) (by omega) (by omega) (by rw [h2]; omega) (by omega)
  rw [h1, show ((N : Int)).toNat = N from Int.toNat_natCast N] at h
  rw [show N * 1 = N from Nat.mul_one N] at h
  exact h
theorem rnew_bad (a b : Int) (w : World) (h : a < 1 ∨ 8 < a ∨ b < 1 ∨ 64 < b) : Calls Try.prog 8 #[.int .i64 a, .int .i64 b] w fun e w' => e = .returned (.tuple #[.pointer none, .int .i64 2]) ∧ w = w' := by
  by_cases h1 : a < 1
  · clear h
    go_enter Try.func8, Try.ntmps8
    go_wp2
    go_ret2
    exact ⟨rfl, rfl⟩
  · by_cases h2 : 8 < a
    · clear h
      go_enter Try.func8, Try.ntmps8
      go_wp2
      go_ret2
      exact ⟨rfl, rfl⟩
    · by_cases h3 : b < 1
      · clear h
        go_enter Try.func8, Try.ntmps8
        go_wp2
        go_ret2
        exact ⟨rfl, rfl⟩
      · have h4 : 64 < b := by omega
        clear h
        go_enter Try.func8, Try.ntmps8
        go_wp2
        go_ret2
        exact ⟨rfl, rfl⟩
set_option maxHeartbeats 2000000 in
theorem rnew_good (n room : Nat) (w : World) (h1 : 1 ≤ n) (h8 : n ≤ 8) (hr1 : 1 ≤ room) (h64 : room ≤ 64) : Calls Try.prog 8 #[.int .i64 (n : Int), .int .i64 (room : Int)] w fun e w' =>
    e = .returned (.tuple #[.pointer (some ⟨w.heap.size + 1, 0, none⟩), .int .i64 0]) ∧ LR w' (w.heap.size + 1) w.heap.size room (List.replicate n []) ∧ Turn (fun _ => False) w w' := by
  have hmk := made_lists8 n h8
  have e1 : ¬ ((n : Int) < 1) := by omega
  have e2 : ¬ (8 < (n : Int)) := by omega
  have e3 : ¬ ((room : Int) < 1) := by omega
  have e4 : ¬ (64 < (room : Int)) := by omega
  have HM : Hid (LR ((w.alloc (.cells (madeCells #[Value.slice none 0 0] n) 35)).alloc (.cells #[.int .i64 (room : Int), .slice (some ⟨w.heap.size, 0, none⟩) n n] 38)) (w.heap.size + 1) w.heap.size room (List.replicate n []) ∧ Turn (fun _ => False) w ((w.alloc (.cells (madeCells #[Value.slice none 0 0] n) 35)).alloc (.cells #[.int .i64 (room : Int), .slice (some ⟨w.heap.size, 0, none⟩) n n] 38))) := by
    refine ⟨⟨List.replicate n (Value.slice none 0 0), ?_, ?_, by simp, by simpa using h8, h64, fun l hl => by rw [(List.mem_replicate.1 hl).2]; exact Nat.zero_le _, fun j v l hv hl => ?_⟩, ((Turn.refl _ w).alloc _).alloc _⟩
    · have h := Box.new (w.alloc (.cells (madeCells #[Value.slice none 0 0] n) 35)) 38 #[.int .i64 (room : Int), .slice (some ⟨w.heap.size, 0, none⟩) n n]
      rw [World.size_alloc] at h
      rw [List.length_replicate]
      exact h
    · have h := (Box.new w 35 (madeCells #[Value.slice none 0 0] n)).alloc (.cells #[.int .i64 (room : Int), .slice (some ⟨w.heap.size, 0, none⟩) n n] 38)
      have e : madeCells #[Value.slice none 0 0] n = (List.replicate n (Value.slice none 0 0)).toArray := by rw [← toList_madeCells_one]
      rw [← e]
      exact h
    · rw [(List.mem_replicate.1 (List.mem_of_getElem? hv)).2, (List.mem_replicate.1 (List.mem_of_getElem? hl)).2]
      exact RdE.nil _
  go_enter Try.func8, Try.ntmps8
  go_wp2
  go_ret2
  exact ⟨rfl, HM.out⟩

end Go.Proofs.Ytemcijfakimkkaa
