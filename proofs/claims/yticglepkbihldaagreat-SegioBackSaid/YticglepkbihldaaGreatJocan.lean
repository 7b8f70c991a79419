/-
  Texts laid one behind the other: Ra Rb Fc Ez Ah Ai Aq Tg.
-/
import Derived.Test.YticglepkbihldaaGreatJocam
import Derived.Test.YticglepkbihldaaGreatJocab
import Derived.Test.YticglepkbihldaaGreatJocaj
import Derived.Test.YticglepkbihldaaGreatJocal

/-
  The document's own reader: its next byte, and that it is no such thing.
-/
namespace Go.Proofs.YticglepkbihldaaGreat
open Go.RowKit

end Go.Proofs.YticglepkbihldaaGreat

/-
  A number read by the document's own reader.
-/
namespace Go.Proofs.YticglepkbihldaaGreat
open Go.RowKit

theorem rdF_cons (k acc : Nat) (hk : k < 10) (b : UInt8) (t : List UInt8) (x : Nat) (hx : x = b.toNat) :
    rdF (10 - k) k acc (b :: t) = if 128 ≤ x then rdF (10 - (k + 1)) (k + 1) (acc + (x - 128) * 128 ^ k) t
      else if (0 < k ∧ x = 0) ∨ (k = 9 ∧ 1 < x) then (0, 4, k + 1) else (acc + x * 128 ^ k, 0, k + 1) := by
  have e : 10 - k = (10 - (k + 1)) + 1 := by omega
  rw [e]
  subst hx
  rfl

/-- What the product and the sum come to. -/
theorem xmul (x y k : Nat) (hk : k ≤ 9) (hy : y = 128 ^ k) (hd : k < 9 ∨ x % 128 ≤ 1) : IntKind.u64.wrap ((x : Int) % 128 * (y : Int)) = ((x % 128 * y : Nat) : Int) ∧ x % 128 * y ≤ 9223372036854775808 ∧ (k < 9 → x % 128 * y ≤ 127 * y) := by
  have hp := pow_le k hk
  have h1 : x % 128 * y ≤ 9223372036854775808 := by
    subst hy
    rcases hd with h | h
    · have h2 := pow_le (k + 1) (by omega)
      rw [Nat.pow_succ] at h2
      have h3 : x % 128 * 128 ^ k ≤ 127 * 128 ^ k := Nat.mul_le_mul_right _ (by omega)
      omega
    · have h3 : x % 128 * 128 ^ k ≤ 1 * 128 ^ k := Nat.mul_le_mul_right _ h
      omega
  refine ⟨?_, h1, fun _ => Nat.mul_le_mul_right _ (by omega)⟩
  have e : ((x : Int) % 128 * (y : Int)) = ((x % 128 * y : Nat) : Int) := by
    rw [Int.natCast_mul]
    rfl
  rw [e, IntKind.wrap_u64]
  omega

theorem xadd (acc z : Nat) (h1 : acc < 9223372036854775808) (h2 : z ≤ 9223372036854775808) : IntKind.u64.wrap ((acc : Int) + (z : Int)) = ((acc + z : Nat) : Int) := by
  rw [IntKind.wrap_u64]
  omega

theorem xacc (acc k : Nat) (hk : k ≤ 9) (h : acc < 128 ^ k) : acc < 9223372036854775808 := by
  have := pow_le k hk
  omega

end Go.Proofs.YticglepkbihldaaGreat

/-
  A frame taken: by the program, and by the document.
-/
namespace Go.Proofs.YticglepkbihldaaGreat
open Go.RowKit

theorem moved_later {p : Nat} {v : Value} {l : List UInt8} {k f : Nat} {w w1 w2 : World} (h : Turn (fun _ => False) w w1) (hp : w.heap.size ≤ p) (g : Moved w1 p v l w2 k f) : Turn (fun _ => False) w w2 :=
  h.fresh g.2 (fun k e => by rw [e]; exact hp)

/-- How many bytes the payload has, where it begins, the fault. -/
def heads (l : List UInt8) : Nat × Nat × Nat := if (rdCount 4194304 l).2.1 ≠ 0 then (0, 0, (rdCount 4194304 l).2.1) else ((rdCount 4194304 l).1, (rdCount 4194304 l).2.2, 0)

theorem heads_bad {l : List UInt8} {f : Nat} (h : (rdCount 4194304 l).2.1 = f) (h0 : f ≠ 0) : heads l = (0, 0, f) := by
  unfold heads
  rw [h, if_pos h0]
theorem heads_ok {l : List UInt8} (h : (rdCount 4194304 l).2.1 = 0) : heads l = ((rdCount 4194304 l).1, (rdCount 4194304 l).2.2, 0) := by
  unfold heads
  rw [h, if_neg (by simp)]

def HeadPost (w : World) (l : List UInt8) (e : Ending) (w' : World) : Prop :=
  e = .returned (.tuple #[.int .i64 (heads l).1, .int .i64 (heads l).2.1, .int .i64 (heads l).2.2]) ∧ Turn (fun _ => False) w w'

theorem head_end {w w' : World} {l : List UInt8} {a b c : Int} {r : Nat × Nat × Nat} (h : heads l = r) (ha : a = r.1) (hb : b = r.2.1) (hc : c = r.2.2) (ht : Turn (fun _ => False) w w') :
    HeadPost w l (.returned (.tuple #[.int .i64 a, .int .i64 b, .int .i64 c])) w' := by
  subst ha hb hc h
  exact ⟨rfl, ht⟩

set_option maxRecDepth 100000 in
set_option maxHeartbeats 1000000 in
theorem length_m (m : Nat) (v : Value) (l : List UInt8) (w : World) (hv : Rd w v l) (hl : l.length ≤ 1000000) (hm : m ≤ l.length) (hmin : (m = 10 ∧ 10 < l.length) ∨ (m = l.length ∧ l.length ≤ 10)) (hcut : Hid (l.take m = l.take 10)) :
    Calls Tryz.prog 63 #[v] w (HeadPost w l) := by
  have HV := Lib.hid hv
  obtain ⟨A, c, rfl, hcc, hxx⟩ := hv
  clear hxx
  have hcap : c ≤ 9223372036854775807 := by have := hcc.2; unfold maxLen at this; omega
  have hcl := hcc.1
  clear hcc
  have HF := Lib.hid (HV.out.front m hm)
  have hml : Hid ((l.take m).length = m) := by rw [List.length_take]; exact Nat.min_eq_left hm
  obtain ⟨t, ht⟩ : ∃ t, t = l.take m := ⟨_, rfl⟩
  rw [← ht] at HF hml hcut
  have HR : Hid (rdCount 4194304 t = rdCount 4194304 l) := by rw [hcut.out]; exact rdCount_take _ _
  have HRL : Hid ((rdCount 4194304 t).2.2 ≤ m) := by rw [rdCount_at, ← hml.out]; exact rdNum_long t
  clear ht
  obtain ⟨r, hr⟩ : ∃ r, r = rdCount 4194304 l := ⟨_, rfl⟩
  rw [HR.out, ← hr] at HRL
  have HE : Hid (heads l = if r.2.1 ≠ 0 then (0, 0, r.2.1) else (r.1, r.2.2, 0)) := by rw [hr]; rfl
  have HD : Hid (rdCount 4194304 (t.drop 0) = r) := by rw [List.drop_zero, HR.out, hr]; trivial
  clear hr HR
  rcases hmin with ⟨rfl, h10⟩ | ⟨rfl, h10⟩
  all_goals
    by_cases h0 : r.2.1 = 0
    · obtain ⟨⟨x, f, k⟩, hq⟩ : ∃ q, q = r := ⟨_, rfl⟩
      subst hq
      obtain rfl : f = 0 := h0
      have hk : k ≤ _ := HRL.out
      go_enter Tryz.func63, Tryz.ntmps63
      go_wp2_with (first
        | (go_at_call 65; refine (new_reader _ t w HF.out (by rw [hml.out]; omega)).mono ?_; rintro e w1 ⟨p, u, rfl, hr1, ht1, hp1, _⟩; have HR1 := Lib.hid hr1; have HT1 := Lib.hid ht1; have HP1 := Lib.hid hp1; clear hr1 ht1 hp1)
        | (go_at_call 100; refine (rcount p u t 0 0 w1 4194304 (by omega) HR1.out).mono ?_; intro e w2 hg; obtain ⟨rfl, hm2⟩ := got_ok hg ⟨rfl, by rw [HD.out]⟩; rw [HD.out] at hm2 ⊢; have HM2 := Lib.hid hm2; clear hm2 hg)
        | (go_at_call 69; refine (fault_any p u t _ _ w2 HM2.out.1).mono ?_; rintro e w3 ⟨rfl, rfl⟩)
        | (go_at_call 70; refine (left_any p u t _ _ w2 HM2.out.1).mono ?_; rintro e w3 ⟨rfl, n3, rfl⟩; rw [hml.out]))
      go_ret3
      exact head_end (r := (x, k, 0)) (by rw [HE.out]; rfl) rfl (by simp; omega) rfl ((moved_later HT1.out HP1.out HM2.out).drewN _)
    · obtain ⟨⟨x, f, k⟩, hq⟩ : ∃ q, q = r := ⟨_, rfl⟩
      subst hq
      have hf : f ≠ 0 := h0
      have hf2 : (((f : Int) == 0) = false) := by rw [beq_eq_false_iff_ne]; omega
      have hf3 : (((f : Int) != 0) = true) := by rw [bne_iff_ne]; omega
      have H0 := Lib.hid hf; clear h0 hf
      go_enter Tryz.func63, Tryz.ntmps63
      go_wp2_with (first
        | (go_at_call 65; refine (new_reader _ t w HF.out (by rw [hml.out]; omega)).mono ?_; rintro e w1 ⟨p, u, rfl, hr1, ht1, hp1, _⟩; have HR1 := Lib.hid hr1; have HT1 := Lib.hid ht1; have HP1 := Lib.hid hp1; clear hr1 ht1 hp1)
        | (go_at_call 100; refine (rcount p u t 0 0 w1 4194304 (by omega) HR1.out).mono ?_; intro e w2 hg; obtain ⟨rfl, hm2⟩ := got_bad hg (fun h => H0.out (by have := h.2; rw [HD.out] at this; exact this)); rw [if_pos rfl, HD.out] at hm2; have HM2 := Lib.hid hm2; clear hm2 hg)
        | (go_at_call 69; refine (fault_any p u t _ _ w2 HM2.out.1).mono ?_; rintro e w3 ⟨rfl, rfl⟩))
      go_ret3
      exact head_end (r := (0, 0, f)) (by rw [HE.out, if_pos H0.out]) rfl rfl rfl (moved_later HT1.out HP1.out HM2.out)

theorem length_any (v : Value) (l : List UInt8) (w : World) (hv : Rd w v l) (hl : l.length ≤ 1000000) : Calls Tryz.prog 63 #[v] w (HeadPost w l) := by
  by_cases h : l.length ≤ 10
  · exact length_m l.length v l w hv hl (Nat.le_refl _) (.inr ⟨rfl, h⟩) (by show _ = _; rw [List.take_of_length_le (Nat.le_refl _), List.take_of_length_le h])
  · exact length_m 10 v l w hv hl (by omega) (.inl ⟨rfl, by omega⟩) (by show _ = _; rfl)

def TakePost (w : World) (l : List UInt8) (e : Ending) (w' : World) : Prop :=
  ∃ v', e = .returned (.tuple #[v', .int .i64 (takes l).2.1, .int .i64 (takes l).2.2]) ∧ Rd w' v' (takes l).1 ∧ Turn (fun _ => False) w w'
/-- Likewise, and where it lies. -/
def TakeAt (Loc : Nat → Prop) (w : World) (l : List UInt8) (e : Ending) (w' : World) : Prop :=
  ∃ v', e = .returned (.tuple #[v', .int .i64 (takes l).2.1, .int .i64 (takes l).2.2]) ∧ Rd w' v' (takes l).1 ∧ Turn (fun _ => False) w w' ∧ ∀ k, v'.ownBlock = some k → Loc k
theorem TakeAt.post {Loc : Nat → Prop} {w w' : World} {l : List UInt8} {e : Ending} (h : TakeAt Loc w l e w') : TakePost w l e w' := by
  obtain ⟨v', h1, h2, h3, _⟩ := h
  exact ⟨v', h1, h2, h3⟩

theorem take_end {Loc : Nat → Prop} {w w' : World} {l : List UInt8} {v : Value} {b c : Int} {r : List UInt8 × Nat × Nat} (h : takes l = r) (hv : Rd w' v r.1) (hk : ∀ k, v.ownBlock = some k → Loc k) (hb : b = r.2.1) (hc : c = r.2.2) (ht : Turn (fun _ => False) w w') :
    TakeAt Loc w l (.returned (.tuple #[v, .int .i64 b, .int .i64 c])) w' := by
  subst hb hc h
  exact ⟨v, rfl, hv, ht, hk⟩
theorem nowhere {Loc : Nat → Prop} : ∀ k, (Value.slice none 0 0).ownBlock = some k → Loc k := fun _ h => by cases h

theorem rdCount_le (most : Nat) (l : List UInt8) : (rdCount most l).1 ≤ most := by
  unfold rdCount
  split
  · exact Nat.zero_le _
  · split
    · exact Nat.zero_le _
    · show (rdNum l).1 ≤ most
      omega

set_option maxRecDepth 100000 in
set_option maxHeartbeats 2000000 in
theorem frame_take_at (Loc : Nat → Prop) (v : Value) (l : List UInt8) (w : World) (hv : Rd w v l) (hl : l.length ≤ 1000000) (hloc : Hid (∀ k, w.heap.size ≤ k → Loc k)) :
    Calls Tryz.prog 36 #[v] w (TakeAt Loc w l) := by
  have HV := Lib.hid hv
  obtain ⟨A, c, rfl, hcc, hxx⟩ := hv
  have hcap : c ≤ 9223372036854775807 := by have := hcc.2; unfold maxLen at this; omega
  have hcl := hcc.1
  clear hxx hcc
  have HLN := Lib.hid (fun W (h : Rd W (.slice A l.length c) l) => length_any _ l W h hl)
  obtain ⟨r, hr⟩ : ∃ r, r = rdCount 4194304 l := ⟨_, rfl⟩
  have hn : r.1 ≤ 4194304 := by rw [hr]; exact rdCount_le _ _
  have hk : r.2.2 ≤ l.length := by rw [hr, rdCount_at]; exact rdNum_long l
  have HTK : Hid (takes l = if r.2.1 ≠ 0 then ([], 0, r.2.1) else if l.length < r.2.2 + r.1 + 4 then ([], 0, 3) else
      if (gets ((l.drop r.2.2).take (r.1 + 4))).2 ≠ 0 then ([], 0, (gets ((l.drop r.2.2).take (r.1 + 4))).2) else ((gets ((l.drop r.2.2).take (r.1 + 4))).1, r.2.2 + r.1 + 4, 0)) := by rw [hr]; rfl
  have HHD : Hid (heads l = if r.2.1 ≠ 0 then (0, 0, r.2.1) else (r.1, r.2.2, 0)) := by rw [hr]; rfl
  clear hr
  obtain ⟨⟨n, f, k⟩, rfl⟩ : ∃ q, q = r := ⟨_, rfl⟩
  replace hn : n ≤ 4194304 := hn
  replace hk : k ≤ l.length := hk
  have HHP : Hid (∀ W e W', HeadPost W l e W' → e = .returned (.tuple #[.int .i64 (if f ≠ 0 then (0, 0, f) else (n, k, 0) : Nat × Nat × Nat).1, .int .i64 (if f ≠ 0 then (0, 0, f) else (n, k, 0) : Nat × Nat × Nat).2.1, .int .i64 (if f ≠ 0 then (0, 0, f) else (n, k, 0) : Nat × Nat × Nat).2.2]) ∧ Turn (fun _ => False) W W') := by
    rintro W e W' ⟨he, ht⟩
    rw [HHD.out] at he
    exact ⟨he, ht⟩
  clear HHD
  by_cases hf : f = 0
  · subst hf
    rw [if_neg (by simp)] at HTK HHP
    by_cases hsh : l.length < k + n + 4
    · rw [if_pos hsh] at HTK
      go_enter Tryz.func36, Tryz.ntmps36
      go_wp2_with (go_at_call 63; refine (HLN.out w HV.out).mono ?_; intro e w1 hp; obtain ⟨rfl, ht⟩ := HHP.out _ _ _ hp; have HT := Lib.hid ht; clear hp ht)
      go_ret3
      exact take_end HTK.out (Rd.none _) nowhere rfl rfl HT.out
    · rw [if_neg hsh] at HTK
      obtain ⟨x, hx⟩ : ∃ x, x = (l.drop k).take (n + 4) := ⟨_, rfl⟩
      have HXL : Hid (x.length = n + 4) := by rw [hx, List.length_take, List.length_drop]; exact Nat.min_eq_left (by omega)
      obtain ⟨ad, rfl⟩ := HV.out.some_at (by omega)
      have HX : Hid (Rd w (.slice (some (ad.add k)) (n + 4) (c - k)) x) := by rw [hx]; exact (HV.out.back k hk).front (n + 4) (by omega)
      rw [← hx] at HTK
      clear hx
      obtain ⟨g, hg⟩ : ∃ g, g = gets x := ⟨_, rfl⟩
      have HGP : Hid (∀ W e W', GetAt Loc W x e W' → ∃ A c, e = .returned (.tuple #[.slice A g.1.length c, .int .i64 g.2]) ∧ Rd W' (.slice A g.1.length c) g.1 ∧ Turn (fun _ => False) W W' ∧ ∀ k, (Value.slice A g.1.length c).ownBlock = some k → Loc k) := by
        rintro W e W' ⟨v', he, hr, ht, hk⟩
        rw [← hg] at he hr
        obtain ⟨A, c, rfl⟩ := Rd.shape hr
        exact ⟨A, c, he, hr, ht, hk⟩
      rw [← hg] at HTK
      clear hg
      obtain ⟨⟨p, f2⟩, rfl⟩ : ∃ q, q = g := ⟨_, rfl⟩
      have hck : ¬ c = k := by omega
      by_cases hg2 : f2 = 0
      · subst hg2
        rw [if_neg (by simp)] at HTK
        go_enter Tryz.func36, Tryz.ntmps36
        go_wp2_with (first
          | (go_at_call 63; refine (HLN.out w HV.out).mono ?_; intro e w1 hp; obtain ⟨rfl, ht⟩ := HHP.out _ _ _ hp; have HT := Lib.hid ht; clear hp ht)
          | (go_at_call 64; rw [show k + n + 4 - k = n + 4 by omega]; refine (crc_get_at Loc _ x w1 (HX.out.later HT.out) (by rw [HXL.out]; omega) (fun k hk => hloc.out k (Nat.le_trans HT.out.size hk))).mono ?_; intro e w2 hp; obtain ⟨A2, c2, rfl, hr2, ht2, hk2⟩ := HGP.out _ _ _ hp; have HR2 := Lib.hid hr2; have HT2 := Lib.hid ht2; have HK2 := Lib.hid hk2; clear hp hr2 ht2 hk2))
        go_ret3
        exact take_end HTK.out HR2.out HK2.out rfl rfl (HT.out.trans HT2.out (fun _ _ f => f))
      · have hf2 : (((f2 : Int) == 0) = false) := by rw [beq_eq_false_iff_ne]; omega
        have hf3 : (((f2 : Int) != 0) = true) := by rw [bne_iff_ne]; omega
        rw [if_pos hg2] at HTK
        clear hg2
        go_enter Tryz.func36, Tryz.ntmps36
        go_wp2_with (first
          | (go_at_call 63; refine (HLN.out w HV.out).mono ?_; intro e w1 hp; obtain ⟨rfl, ht⟩ := HHP.out _ _ _ hp; have HT := Lib.hid ht; clear hp ht)
          | (go_at_call 64; rw [show k + n + 4 - k = n + 4 by omega]; refine (crc_get_at Loc _ x w1 (HX.out.later HT.out) (by rw [HXL.out]; omega) (fun k hk => hloc.out k (Nat.le_trans HT.out.size hk))).mono ?_; intro e w2 hp; obtain ⟨A2, c2, rfl, hr2, ht2, hk2⟩ := HGP.out _ _ _ hp; have HR2 := Lib.hid hr2; have HT2 := Lib.hid ht2; have HK2 := Lib.hid hk2; clear hp hr2 ht2 hk2))
        go_ret3
        exact take_end HTK.out (Rd.none _) nowhere rfl rfl (HT.out.trans HT2.out (fun _ _ f => f))
  · have hf2 : (((f : Int) == 0) = false) := by rw [beq_eq_false_iff_ne]; omega
    have hf3 : (((f : Int) != 0) = true) := by rw [bne_iff_ne]; omega
    rw [if_pos hf] at HTK HHP
    clear hf
    go_enter Tryz.func36, Tryz.ntmps36
    go_wp2_with (go_at_call 63; refine (HLN.out w HV.out).mono ?_; intro e w1 hp; obtain ⟨rfl, ht⟩ := HHP.out _ _ _ hp; have HT := Lib.hid ht; clear hp ht)
    go_ret3
    exact take_end HTK.out (Rd.none _) nowhere rfl rfl HT.out

theorem frame_take (v : Value) (l : List UInt8) (w : World) (hv : Rd w v l) (hl : l.length ≤ 1000000) : Calls Tryz.prog 36 #[v] w (TakePost w l) :=
  (frame_take_at (fun _ => True) v l w hv hl (fun _ _ => trivial)).mono fun _ _ h => h.post

end Go.Proofs.YticglepkbihldaaGreat

/-
  A region that draws, walked by hand in a function that holds a range over a function: no panic is owed. No type is named here.
-/
namespace Go.Proofs.YticglepkbihldaaGreat
open Go.RowKit

def calm (Q : Exit → Act → World → Prop) : Exit → Act → World → Prop
  | .panic _, _, _ => False
  | .normal, a, w => Q .normal a w
  | .ret, a, w => Q .ret a w
  | .exit c, a, w => Q (.exit c) a w
  | .goto t, a, w => Q (.goto t) a w
  | .outgrown, a, w => Q .outgrown a w
theorem calm_normal {Q : Exit → Act → World → Prop} {a : Act} {w : World} (h : Q .normal a w) : calm Q .normal a w := h
theorem drawn_region_calm {P : Program} {ops : Array Oper} {Q : Exit → Act → World → Prop} (S : World → Prop) (zs : List Nat) {id : Nat} {ts : Array Value} {ds : List Deferred} {w : World} (hm : P.follows .mixedOrders = true) (h : Drawn P ops (calm Q) S zs ops.size (Array.replicate ops.size false) ts ds w.drew) : (Code.region id ops true).wp P Q { tmps := ts, defers := ds } w :=
  Code.wp_mono (fun e a w h => by cases e <;> first | exact h | exact h.elim) (drawn_region S zs hm h)

end Go.Proofs.YticglepkbihldaaGreat

/-
  Stage 12: putRows: rows by the places of their texts.
-/
namespace Go.Proofs.YticglepkbihldaaGreat
open Go.RowKit Go.Shelf
attribute [local go_sem] Oper.semAt_some wide_fn

set_option maxRecDepth 100000

theorem odd_box12 {w : World} {D k : Nat} {t : TypeId} {cs : Array Value} (h : odd D w k) (hb : Box w k t cs) : False := by
  obtain ⟨_, o, ho, hc⟩ := h
  rw [show w.heap[k]? = _ from hb] at ho
  cases ho
  cases hc
theorem odd_apart12 (w : World) (D : Nat) : Apart12 w (odd D w) := fun _ _ _ h hb => (odd_box12 h hb).elim
theorem Wt.odd {w0 a b : World} {p D : Nat} {l : List UInt8} (h : Wt w0 p a l) (hD : w0.heap.size ≤ D) (ht : Turn (odd D a) a b) : Wt w0 p b l := by
  obtain ⟨h0, u, ⟨h1, h2⟩, h3, h4⟩ := h
  refine ⟨h0, u, ⟨h1.odd ht, h2.turn ht (fun k hk e => ?_)⟩, h3, h4.trans ht (fun k hk e => by have := e.1; omega)⟩
  rcases h2.form with ⟨e1, _⟩ | ⟨g, cap, cur, e1, hb, _⟩
  · rw [e1] at hk; cases hk
  · rw [e1] at hk
    simp only [Value.ownBlock, Option.some.injEq] at hk
    subst hk
    exact odd_box12 e hb
/-- A slice of dictionaries, one for each of the first dimensions. -/
structure Tx12 (w : World) (tv : Value) (T : Nat → List (List UInt8)) (N : Nat) : Prop where
  out : ∃ b c cs, tv = .slice (some ⟨b, 0, none⟩) N c ∧ Box w b 65 cs ∧ ∀ d, d < N → ∃ D, cs[d]? = some (.pointer D) ∧ DV10 w (.pointer D) (T d)
theorem Tx12.kept {w w' : World} {tv : Value} {T : Nat → List (List UInt8)} {N : Nat} {S : Nat → Prop} (h : Tx12 w tv T N) (ht : Turn S w w') (h1 : Apart12 w S) (h2 : ∀ k cs, S k → ¬ Box w k 65 cs) : Tx12 w' tv T N := by
  obtain ⟨b, c, cs, e, hb, hd⟩ := h.out
  exact ⟨b, c, cs, e, hb.turn ht (fun e => h2 _ _ e hb), fun d hdN => (hd d hdN).imp fun D ⟨g1, g2⟩ => ⟨g1, g2.kept ht h1⟩⟩
theorem Tx12.wt {w0 a b : World} {tv : Value} {T : Nat → List (List UInt8)} {N : Nat} (h : Tx12 a tv T N) (ht : WT12 w0 a b) : Tx12 b tv T N :=
  h.kept ht (WS12.apart _ _) fun k cs e hb => by rcases e.type hb with e | e <;> exact absurd e (by decide)
theorem Tx12.later {a b : World} {tv : Value} {T : Nat → List (List UInt8)} {N : Nat} (h : Tx12 a tv T N) (ht : Turn (fun _ => False) a b) : Tx12 b tv T N := h.kept ht (fun _ _ _ f => f.elim) fun _ _ f => f.elim
theorem Tx12.odd {a b : World} {tv : Value} {T : Nat → List (List UInt8)} {N D : Nat} (h : Tx12 a tv T N) (ht : Turn (odd D a) a b) : Tx12 b tv T N := h.kept ht (odd_apart12 _ _) fun _ _ h hb => odd_box12 h hb
theorem code_in12 {x : List UInt8} {T : List (List UInt8)} (h : x ∈ T) : codeA x T = .tuple #[.int .i64 (idxG x T : Int), .bool true] := by
  have hi : idxG x T < T.length := idxG_mem.2 h
  unfold codeA
  rw [if_pos hi, decide_eq_true hi]

/-- In the range: what has been put. -/
structure PutI12 (w0 w4 : World) (p b3 b5 b6 : Nat) (base : List UInt8) (tv : Value) (T : Nat → List (List UInt8)) (N : Nat) (S : Nat → Prop) (pre : List R11) (V : World) : Prop where
  wt : Wt w0 p V (base ++ rowsB T N 0 pre)
  c3 : Box V b3 66 #[.pointer (some ⟨p, 0, none⟩)]
  c5 : Box V b5 71 #[tv]
  c6 : Box V b6 2 #[.int .i64 (lastH 0 pre)]
  tx : Tx12 V tv T N
  turn : Turn S w4 V
theorem PutI12.odd {w0 w4 A B : World} {p b3 b5 b6 D : Nat} {base : List UInt8} {tv : Value} {T : Nat → List (List UInt8)} {N : Nat} {S : Nat → Prop} {pre : List R11} (h : PutI12 w0 w4 p b3 b5 b6 base tv T N S pre A) (h0 : w0.heap.size ≤ D) (hD : w4.heap.size ≤ D) (ht : Turn (odd D A) A B) : PutI12 w0 w4 p b3 b5 b6 base tv T N S pre B :=
  ⟨h.wt.odd h0 ht, h.c3.odd ht, h.c5.odd ht, h.c6.odd ht, h.tx.odd ht, h.turn.trans ht (fun k hk e => by have := e.1; omega)⟩
theorem PutI12.later {w0 w4 A B : World} {p b3 b5 b6 : Nat} {base : List UInt8} {tv : Value} {T : Nat → List (List UInt8)} {N : Nat} {S : Nat → Prop} {pre : List R11} (h : PutI12 w0 w4 p b3 b5 b6 base tv T N S pre A) (ht : Turn (fun _ => False) A B) : PutI12 w0 w4 p b3 b5 b6 base tv T N S pre B :=
  ⟨h.wt.later ht, h.c3.turn ht (fun f => f), h.c5.turn ht (fun f => f), h.c6.turn ht (fun f => f), h.tx.later ht, h.turn.trans ht (fun _ _ f => f.elim)⟩

set_option maxHeartbeats 16000000 in
theorem putrows_any12 (w0 : World) (p : Nat) (l : List UInt8) (s : Value) (L : List R11) (tv : Value) (T : Nat → List (List UInt8)) (N : Nat) (w : World) (h : Wt w0 p w l) (hs : SV11 w0 s L) (hT : Tx12 w tv T N) (hN : N ≤ 4)
    (hin : ∀ r ∈ L, ∀ d, d < N → r.k.dim d ∈ T d) (hh : ∀ r ∈ L, 0 ≤ r.k.h ∧ r.k.h ≤ 16777216) (hTl : ∀ d, d < N → (T d).length ≤ 20000) (hl : (l ++ (enc L.length ++ rowsB T N 0 L)).length ≤ 900000) :
    Calls Tryz.prog 30 #[.pointer (some ⟨p, 0, none⟩), s, tv] w fun e w' => (e = .returned (.tuple #[])) ∧ Wt w0 p w' (l ++ (enc L.length ++ rowsB T N 0 L)) := by
  have HS := Lib.hid hs
  have hlen := hs.right.2.2
  have HOK := Lib.hid hs.right.2.1
  have HRI := Lib.hid (rightR_spec hs.right.1)
  have HIN := Lib.hid hin; have HHR := Lib.hid hh; have HTL := Lib.hid hTl
  obtain ⟨ps, rfl⟩ := hs.ptr
  obtain ⟨tb, tc, tcs, rfl, -⟩ := hT.out
  obtain ⟨base, hbase⟩ : ∃ base, base = l ++ enc L.length := ⟨_, rfl⟩
  have HBA : Hid (l ++ (enc L.length ++ rowsB T N 0 L) = base ++ rowsB T N 0 L) := by show _ = _; rw [hbase, List.append_assoc]
  have HLB : Hid (∀ pre, pre <+: L → (base ++ rowsB T N 0 pre).length ≤ 900000) := fun pre hp => by
    have h1 := rowsB_pre T N 0 hp
    rw [HBA.out] at hl
    simp only [List.length_append] at hl ⊢
    omega
  have hl0 : l.length ≤ 1000000 := by rw [List.length_append] at hl; omega
  obtain ⟨b3, hb3⟩ : ∃ b3 : Nat, b3 = w.heap.size := ⟨_, rfl⟩
  obtain ⟨w1, hw1⟩ : ∃ w1, w1 = (w.alloc (.cells #[.pointer (some ⟨p, 0, none⟩)] 66)).alloc (.cells #[.slice (some ⟨tb, 0, none⟩) N tc] 71) := ⟨_, rfl⟩
  have HT1 : Hid (Turn (fun _ => False) w w1) := by rw [hw1]; exact ((Turn.refl _ w).alloc _).alloc _
  have HB3 : Hid (Box w1 b3 66 #[.pointer (some ⟨p, 0, none⟩)]) := by rw [hw1, hb3]; exact (Box.new w _ _).alloc _
  have HB5 : Hid (Box w1 (b3 + 1) 71 #[.slice (some ⟨tb, 0, none⟩) N tc]) := by
    rw [hw1, hb3]
    have h := Box.new (w.alloc (.cells #[.pointer (some ⟨p, 0, none⟩)] 66)) 71 #[.slice (some ⟨tb, 0, none⟩) N tc]
    rw [World.size_alloc] at h
    exact h
  have HWT := Lib.hid h; have HTX := Lib.hid hT
  have HW1 := Lib.hid hw1; have HBB := Lib.hid hb3; have HBS := Lib.hid hbase
  have HNL : Hid (L.length < 18446744073709551616) := by show _ < _; omega
  have hwr : IntKind.u64.wrap (L.length : Int) = (L.length : Int) := by rw [IntKind.wrap_u64]; omega
  clear hw1 hb3 h hT hs hin hh hTl hl hbase
  refine (callsIn_wide (n := 5)).1 ?_
  refine callsIn_of_wp_marks Tryz.func30 rfl trivial ?_ rfl
  simp only [Tryz.ntmps30, List.size_toArray, List.length_cons, List.length_nil, Nat.reduceAdd, Nat.reduceSub, Array.replicate_succ, Array.replicate_zero, List.push_toArray, List.append_toArray, List.nil_append, List.cons_append]
  refine wpIn_wide.2 ?_
  go_wp2_with fail
  rw [← HW1.out, ← HBB.out]
  go_wp2_with fail
  refine drawn_region_calm (fun W => Turn (fun _ => False) w1 W) [4] (by kernel_rfl) ?_
  have hS0 : Turn (fun _ => False) w1 (World.drew w1) := (Turn.refl _ w1).drew
  generalize World.drew w1 = wd at *
  refine drawn_take 0 12 (.pointer (some ⟨p, 0, none⟩)) rfl rfl (by kernel_rfl) (by kernel_rfl) (by kernel_rfl) (by kernel_rfl) (fun _ _ _ h => h) (by rfl) (by assumption) (by intro w hSw; have a0 := (HB3.out.turn hSw (fun f => f)).cell 0; clear hSw; go_simp) ?_
  try simp only [List.setIfInBounds_toArray, List.set_cons_zero, List.set_cons_succ]
  refine drawn_take 1 13 (.pointer ps) rfl rfl (by kernel_rfl) (by kernel_rfl) (by kernel_rfl) (by kernel_rfl) (fun _ _ _ h => h) (by rfl) (by assumption) (by intro w hSw; obtain hS1 := hSw; go_simp) ?_
  try simp only [List.setIfInBounds_toArray, List.set_cons_zero, List.set_cons_succ]
  refine drawn_any [2] (by kernel_rfl) (by simp) ?_
  refine drawn_cons rfl (fun K hK => ?_) drawn_nil
  go_simp
  refine (len_any11 (.pointer ps) L wd (HS.out.later ((HWT.out.turn.trans HT1.out (fun _ _ f => f)).trans hS0 (fun _ _ f => f)))).mono ?_
  rintro e wa ⟨rfl, ta⟩
  have hS1 := hS0.trans ta (fun _ _ f => f)
  refine hK.out _ _ _ hS1 ?_
  clear hK K ta hS0
  try simp only [List.setIfInBounds_toArray, List.set_cons_zero, List.set_cons_succ]
  refine drawn_take 3 15 (.int .u64 (L.length : Int)) rfl rfl (by kernel_rfl) (by kernel_rfl) (by kernel_rfl) (by kernel_rfl) (fun _ _ _ h => h) (by rfl) (by assumption) (by intro w hSw; obtain hS1 := hSw; go_simp) ?_
  try simp only [List.setIfInBounds_toArray, List.set_cons_zero, List.set_cons_succ]
  refine drawn_last (z := 4) rfl (by kernel_rfl) (by kernel_rfl) (by kernel_rfl) (fun K hK => ?_)
  go_simp
  have HTA := Lib.hid hS1
  refine (wx_num ((HWT.out.later HT1.out).later hS1) L.length HNL hl0).mono ?_
  rintro e w2 ⟨rfl, h2, t2⟩
  rw [← HBS.out] at h2
  have HB3a := Lib.hid (t2.box (HB3.out.turn hS1 (fun f => f)) (by decide) (by decide)); have HB5a := Lib.hid (t2.box (HB5.out.turn hS1 (fun f => f)) (by decide) (by decide)); have HTXa := Lib.hid (((HTX.out.later HT1.out).later hS1).wt t2)
  have HWT2 := Lib.hid h2
  refine hK.out _ _ ?_
  refine calm_normal ?_
  clear hK K hS1 h2 t2 hwr HB3 HB5 HTX HWT
  try simp only [List.setIfInBounds_toArray, List.set_cons_zero, List.set_cons_succ]
  obtain ⟨b6, hb6⟩ : ∃ b6 : Nat, b6 = w2.heap.size := ⟨_, rfl⟩
  obtain ⟨w3, hw3⟩ : ∃ w3, w3 = w2.alloc (.cells #[.int .i64 0] 2) := ⟨_, rfl⟩
  have HT3 : Hid (Turn (fun _ => False) w2 w3) := by rw [hw3]; exact (Turn.refl _ w2).alloc _
  have HB6 : Hid (Box w3 b6 2 #[.int .i64 0]) := by rw [hw3, hb6]; exact Box.new w2 _ _
  have HW3 := Lib.hid hw3; have HB6E := Lib.hid hb6
  clear hw3 hb6
  go_wp2_with fail
  rw [← HW3.out, ← HB6E.out]
  refine (rows_any12 (.pointer ps) L w3 (HS.out.later (HWT2.out.turn.trans HT3.out (fun _ _ f => f)))).mono ?_
  rintro e w4 ⟨gf, lb, rfl, heg, t4, hfe⟩
  have HW04 : Hid (Turn (fun _ => False) w0 w4) := (HWT2.out.turn.trans HT3.out (fun _ _ f => f)).trans t4 (fun _ _ f => f)
  obtain ⟨S, hS⟩ : ∃ S : Nat → Prop, S = fun k => w0.heap.size ≤ k ∧ ∀ cs, ¬ Box w4 k 25 cs := ⟨_, rfl⟩
  have HSW : Hid (∀ V, Turn S w4 V → ∀ k, WS12 w0 V k → S k) := fun V ht k hk => by
    rw [hS] at ht ⊢
    refine ⟨hk.1, fun cs hb => ?_⟩
    have hb2 := hb.turn ht (fun e => e.2 cs hb)
    rcases hk.type hb2 with e | e <;> exact absurd e (by decide)
  have HSN : Hid (∀ k, w4.heap.size ≤ k → S k) := fun k hk => by
    rw [hS]
    exact ⟨Nat.le_trans HW04.out.size hk, fun cs hb => by have := hb.lt; omega⟩
  have HFE := Lib.hid (hfe 4 S (fun k cs e _ hb => by rw [hS] at e; exact e.2 cs hb) (FreeS12.new HS.out HW04.out (fun k e => by rw [hS] at e; exact e.1)))
  have HB64 := Lib.hid (HB6.out.turn t4 (fun f => f))
  have HS6 : Hid (S b6) := by
    show S b6
    rw [hS]
    refine ⟨by rw [HB6E.out]; exact HWT2.out.turn.size, fun cs hb => ?_⟩
    exact absurd (box_type12 HB64.out hb).1 (by decide)
  have T24 : Turn (fun _ => False) w2 w4 := HT3.out.trans t4 (fun _ _ f => f)
  have H0 : Hid (PutI12 w0 w4 p b3 (b3 + 1) b6 base (.slice (some ⟨tb, 0, none⟩) N tc) T N S [] w4) := ⟨by
    show Wt w0 p w4 (base ++ [])
    rw [List.append_nil]
    exact HWT2.out.later T24, HB3a.out.turn T24 (fun f => f), HB5a.out.turn T24 (fun f => f), HB64.out, HTXa.out.later T24, Turn.refl _ _⟩
  clear hfe t4 hS T24
  go_wp2_with fail
  refine (wpIn_wide (n := 5)).1 ?_
  refine' over5 (n := 5) (by omega) (gf := gf) (lb := lb) rfl heg HFE.out (Turn.refl _ _) (HSN.out _ (Nat.le_succ _)) (fun _ => rfl) _
    (fun (pre : List R11) V => PutI12 w0 w4 p b3 (b3 + 1) b6 base (.slice (some ⟨tb, 0, none⟩) N tc) T N S pre V) (fun _ _ _ => False) ?hI ?hIx H0.out
    (fun pre y q V => PutI12 w0 w4 p b3 (b3 + 1) b6 base (.slice (some ⟨tb, 0, none⟩) N tc) T N S pre V ∧ Box V q 52 (cells11 y) ∧ pre ++ [y] <+: L) ?hax ?assign ?body ?done ?stop
  case assign =>
    intro l0 pre x W K hi hgv hK
    have HK := Lib.hid hK
    have HT : Hid (Turn (fun _ => False) W (W.alloc (.cells (cells11 x) 52))) := (Turn.refl _ W).alloc _
    have HB : Hid (PutI12 w0 w4 p b3 (b3 + 1) b6 base (.slice (some ⟨tb, 0, none⟩) N tc) T N S pre (W.alloc (.cells (cells11 x) 52)) ∧ Box (W.alloc (.cells (cells11 x) 52)) W.heap.size 52 (cells11 x) ∧ pre ++ [x] <+: L) := ⟨hi.later HT.out, Box.new W _ _, hgv⟩
    clear hK hi hgv
    gi_wp2
    generalize W.alloc (.cells (cells11 x) 52) = W2 at *
    generalize W.heap.size = q at *
    exact HK.out q _ HB.out HT.out
  case hI =>
    intro pre A B h ht
    exact h.odd (Nat.le_trans HW04.out.size (Nat.le_refl _)) (Nat.le_refl _) ht
  case hIx =>
    rintro c pre A B h ht
    exact h
  case hax =>
    rintro pre y q A B ⟨h1, h2, h3⟩ ht
    exact ⟨h1.odd (Nat.le_trans HW04.out.size (Nat.le_refl _)) (Nat.le_refl _) ht, h2.odd ht, h3⟩
  case stop =>
    rintro D c0 pre V _ _ h _
    exact h.elim
  case done =>
    rintro D xs V hD hA hi hK
    subst hA
    have HI := Lib.hid hi; have HKD := Lib.hid hK; have HDD := Lib.hid hD
    clear hi hK hD
    go_wp2
    have u1 : Turn (fun k => k = D) V (V.putObj D (.deferred none)) := Turn.putObj _ D _ rfl
    refine ⟨by simp, .inl ⟨_, _, rfl, run_takeDeferred HKD.out, ?_⟩⟩
    refine ⟨.tuple #[], ?_, rfl, ?_⟩
    · simp [results, Tryz.f30, go_sem]
    · rw [HBA.out]
      have hodd : Turn (odd w4.heap.size V) V (V.putObj D (.deferred none)) := Turn.putObj _ D _ ⟨HDD.out, _, HKD.out, rfl⟩
      exact HI.out.wt.odd HW04.out.size hodd
  case body =>
    rintro l0 pre ⟨k, ⟨cn, csu, clo, chi⟩⟩ q V ⟨hi, hq, hgv⟩
    have hmem : (⟨k, ⟨cn, csu, clo, chi⟩⟩ : R11) ∈ L := by obtain ⟨t, rfl⟩ := hgv; simp
    have hrow := HRI.out.2 _ hmem
    simp only [okRow, Bool.and_eq_true, decide_eq_true_iff] at hrow
    have hn1 : 1 ≤ cn := hrow.1
    obtain ⟨m, rfl⟩ := Int.eq_ofNat_of_zero_le (show 0 ≤ cn by omega)
    obtain ⟨hk0, hk1⟩ := HHR.out _ hmem
    simp only at hk0 hk1
    have hlh := last_le HRI.out.1 hgv (fun r hr => (HHR.out r hr).1)
    simp only at hlh
    obtain ⟨o1, o2, o3, o4⟩ := HOK.out _ hmem
    rw [fit_iff] at o1 o2 o3 o4
    simp only at o1 o2 o3 o4
    have HCM : Hid (m < 18446744073709551616) := by show _ < _; omega
    have hwm : IntKind.u64.wrap (m : Int) = (m : Int) := by rw [IntKind.wrap_u64]; omega
    have HO2 := Lib.hid o2; have HO3 := Lib.hid o3; have HO4 := Lib.hid o4
    obtain ⟨dh, hdh⟩ : ∃ dh : Nat, k.h - lastH 0 pre = (dh : Int) := Int.eq_ofNat_of_zero_le (by omega)
    have hsub : IntKind.i64.wrap (k.h - lastH 0 pre) = (dh : Int) := by rw [hdh]; exact IntWalk.i64_in _ (by omega)
    have hwd : IntKind.u64.wrap (dh : Int) = (dh : Int) := by rw [IntKind.wrap_u64]; omega
    have HDH : Hid (dh < 18446744073709551616) := by show _ < _; omega
    have HMI : Hid (∀ d, d < N → k.dim d ∈ T d) := fun d hd => HIN.out _ hmem d hd
    have hpp : pre <+: L := List.IsPrefix.trans (List.prefix_append _ _) hgv
    have hbl : (base ++ rowsB T N 0 (pre ++ [⟨k, ⟨(m : Int), csu, clo, chi⟩⟩])).length ≤ 900000 := HLB.out _ hgv
    rw [rowsB_snoc] at hbl
    have HRB : Hid (base ++ rowsB T N 0 (pre ++ [⟨k, ⟨(m : Int), csu, clo, chi⟩⟩]) = base ++ rowsB T N 0 pre ++ enc dh ++ placesB T k N ++ enc m ++ enc (zig csu) ++ enc (zig clo) ++ enc (zig chi)) := by
      show _ = _
      rw [rowsB_snoc]
      unfold rowB cellB
      rw [hdh]
      simp only [Int.toNat_natCast, List.append_assoc]
    have HLN : Hid ((base ++ rowsB T N 0 pre ++ enc dh ++ placesB T k N ++ enc m ++ enc (zig csu) ++ enc (zig clo) ++ enc (zig chi)).length ≤ 900000) := by
      rw [← HRB.out, rowsB_snoc]
      exact hbl
    obtain ⟨bs, hbs⟩ : ∃ bs, bs = base ++ rowsB T N 0 pre := ⟨_, rfl⟩
    have hw0 := hi.wt
    rw [← hbs] at hw0 HRB HLN
    have HLP : Hid (∀ d, d ≤ N → (bs ++ enc dh ++ placesB T k d).length ≤ 900000) := fun d hd => by
      have h1 := HLN.out
      have h2 := placesB_le T k hd
      simp only [List.length_append] at h1 ⊢
      omega
    have HLQ : Hid (bs.length ≤ 900000 ∧ (bs ++ enc dh ++ placesB T k N ++ enc m).length ≤ 900000 ∧ (bs ++ enc dh ++ placesB T k N ++ enc m ++ enc (zig csu)).length ≤ 900000 ∧ (bs ++ enc dh ++ placesB T k N ++ enc m ++ enc (zig csu) ++ enc (zig clo)).length ≤ 900000) := by
      have h1 := HLN.out
      simp only [List.length_append] at h1
      refine ⟨by omega, by simp only [List.length_append]; omega, by simp only [List.length_append]; omega, by simp only [List.length_append]; omega⟩
    have HSB : Hid (S b6) := HS6
    have HI := Lib.hid hi; have HQ := Lib.hid hq; have HWV := Lib.hid hw0; have HGV := Lib.hid hgv
    have c3 := hi.c3.cell 0; have c6 := hi.c6.cell 0; have q0 := hq.cell 0
    simp only [cells11] at q0
    clear hmem hrow hn1 hlh o1 o2 o3 o4 hpp hbl hbs hi hq hw0 hgv hdh
    gi_wp2_with fail
    refine (CallsIn.inRound l0 (callsIn_wide.2 (wx_num HWV.out dh HDH (by have := HLQ.out.1; omega)))).mono ?_
    rintro e V1 ⟨rfl, h1, t1⟩
    have HW1' := Lib.hid h1; have HT1' := Lib.hid t1
    have HQ1 := Lib.hid (t1.box HQ.out (by decide) (by decide))
    have HC31 := Lib.hid (t1.box HI.out.c3 (by decide) (by decide)); have HC51 := Lib.hid (t1.box HI.out.c5 (by decide) (by decide)); have HC61 := Lib.hid (t1.box HI.out.c6 (by decide) (by decide))
    have HTX1 := Lib.hid (HI.out.tx.wt t1)
    have q0 := HQ1.out.cell 0
    simp only [cells11] at q0
    have c6 := HC61.out.cell 0; have f6 := HC61.out.free 0
    have hw2 : Turn (fun g => g = b6) V1 (V1.setCell ⟨b6, 0, none⟩ (.int .i64 k.h)) := Turn.setCell (S := fun g => g = b6) (p := ⟨b6, 0, none⟩) (Turn.refl _ V1) (fun _ => rfl) _
    have hn : ∀ {g : Nat} {t : TypeId} {cs : Array Value}, Box V1 g t cs → t ≠ 2 → ¬ g = b6 := fun hb ht e => by subst e; exact ht (box_type12 hb HC61.out).1
    have HQ2 := Lib.hid (HQ1.out.turn hw2 (hn HQ1.out (by decide))); have HC32 := Lib.hid (HC31.out.turn hw2 (hn HC31.out (by decide))); have HC52 := Lib.hid (HC51.out.turn hw2 (hn HC51.out (by decide)))
    have HC62 := Lib.hid (HC61.out.set 0 (.int .i64 k.h))
    have HTX2 := Lib.hid (HTX1.out.kept hw2 (fun g t cs e hb => by subst e; have e2 := (box_type12 hb HC61.out).1; subst e2; exact ⟨by decide, by decide, by decide, by decide⟩) (fun g cs e hb => by subst e; exact absurd (box_type12 hb HC61.out).1 (by decide)))
    have HW2' : Hid (Wt w0 p (V1.setCell ⟨b6, 0, none⟩ (.int .i64 k.h)) (bs ++ enc dh)) := by
      obtain ⟨g0, u, ⟨g1, g2⟩, g3, g4⟩ := h1
      refine ⟨g0, u, ⟨g1.turn hw2 (hn g1 (by decide)), g2.turn hw2 (fun x hx e => ?_)⟩, g3, g4.trans hw2 (fun x hx e => by have := HI.out.c6; have h6 := HS6.out; have := g4.size; subst e; have := HB6E.out; have h7 := HWT2.out.turn.size; omega)⟩
      subst e
      exact g2.ne_box HC61.out (by decide) hx
    have HT2' : Hid (Turn S V (V1.setCell ⟨b6, 0, none⟩ (.int .i64 k.h)) ∧ Still w4.heap.size V (V1.setCell ⟨b6, 0, none⟩ (.int .i64 k.h))) := by
      refine ⟨(t1.mono fun g _ e => HSW.out V HI.out.turn g e).trans hw2 (fun g _ e => by rw [e]; exact HSB.out), ?_⟩
      refine Still.trans ⟨t1.size, fun g o _ hk ho => (Turn.block t1 g (Array.getElem?_eq_some_iff.1 hk).1 (fun e => ?_)).trans hk⟩ (Still.setCell _ _ _)
      rcases e.2 with ⟨cs, hc⟩ | ⟨cs, hc⟩
      · rw [show V.heap[g]? = _ from hc] at hk; cases hk; cases ho
      · rw [show V.heap[g]? = _ from hc] at hk; cases hk; cases ho
    have c5 := HC52.out.cell 0
    clear hn hw2 h1 t1 HTX1 c3
    gi_wp2_with fail
    generalize V1.setCell ⟨b6, 0, none⟩ (.int .i64 k.h) = V2 at *
    clear q0 c6 f6
    gi_wp2_with fail
    gi_loopw [33] (fun x33 wr => ∃ i : Nat, x33 = .int .i64 (i : Int) ∧ i ≤ N ∧ Wt w0 p wr (bs ++ enc dh ++ placesB T k i) ∧ WT12 w0 V2 wr) (fun x33 _ => N - (intOf x33).toNat)
    case atStart => exact ⟨0, rfl, Nat.zero_le _, by show Wt _ _ _ (_ ++ []); rw [List.append_nil]; exact HW2'.out, WT12.refl _ _⟩
    case round =>
      obtain ⟨i, rfl, hi, hw, ht⟩ := hrel
      have HWR := Lib.hid hw; have HTR := Lib.hid ht
      have HC3R := Lib.hid (ht.box HC32.out (by decide) (by decide)); have HQR := Lib.hid (ht.box HQ2.out (by decide) (by decide))
      have htx := HTX2.out.wt ht
      clear hw ht c5
      by_cases hlt : i < N
      · obtain ⟨tb', tc', cs', e, hbx, hd⟩ := htx.out
        cases e
        obtain ⟨D, hcs, hdv⟩ := hd i hlt
        have e0 : wr.cell? ⟨tb, i, none⟩ = some (.pointer D) := by rw [hbx.cell]; exact hcs
        have hil : (i : Int) < N := by omega
        have hi4 : (i : Int) < 4 := by omega
        have qd : wr.cell? ⟨q, 1 + i, none⟩ = some (sv10 (k.dim i)) := by rw [HQR.out.cell]; exact row_cells12 i (by omega)
        have hcd := code_any10 (.pointer D) (T i) (k.dim i) wr hdv
        rw [code_in12 (HMI.out i hlt)] at hcd
        have HCD := Lib.hid hcd
        have hix := idxG_le (k.dim i) (T i)
        have hTi := HTL.out i hlt
        have HPB : Hid (placesB T k (i + 1) = placesB T k i ++ enc (idxG (k.dim i) (T i))) := rfl
        obtain ⟨ix, hxe⟩ : ∃ ix, ix = idxG (k.dim i) (T i) := ⟨_, rfl⟩
        rw [← hxe] at HPB HCD hix
        have hxw : IntKind.u64.wrap (ix : Int) = (ix : Int) := by rw [IntKind.wrap_u64]; omega
        have HXN : Hid (ix < 18446744073709551616) := by show _ < _; omega
        have HLI : Hid ((bs ++ enc dh ++ placesB T k i).length ≤ 900000) := HLP.out i (by omega)
        clear hbx hd hcs hdv hcd hix hTi hxe htx
        unfold sv10 at qd HCD
        gi_wp2_with fail
        refine (CallsIn.inRound l0 (callsIn_wide.2 HCD.out)).mono ?_
        rintro e Va ⟨rfl, ta⟩
        have HTa := Lib.hid ta
        have c3 := (HC3R.out.turn ta (fun f => f)).cell 0
        clear ta e0 qd HCD
        gi_wp2_with fail
        refine (CallsIn.inRound l0 (callsIn_wide.2 (wx_num (HWR.out.later HTa.out) ix HXN (by have := HLI.out; omega)))).mono ?_
        rintro e Vb ⟨rfl, hb, tb2⟩
        rw [List.append_assoc, ← HPB.out] at hb
        have HB := Lib.hid hb
        have HTb : Hid (WT12 w0 V2 Vb) := (HTR.out.trans (WT12.of HTa.out)).trans tb2
        clear hb tb2 c3 hxw
        gi_wp2
        go_roundw
        case rel => exact ⟨i + 1, by go_num, hlt, HB.out, HTb.out⟩
        case measure => simp [intOf]; omega
      · obtain rfl : i = N := by omega
        have HSK : Hid (∀ W, WT12 w0 wr W → (W.cell? ⟨b3, 0, none⟩ = some (.pointer (some ⟨p, 0, none⟩)) ∧ W.cell? ⟨q, 5, none⟩ = some (.int .i64 (m : Int)) ∧ W.cell? ⟨q, 6, none⟩ = some (.int .i64 csu) ∧ W.cell? ⟨q, 7, none⟩ = some (.int .i64 clo) ∧ W.cell? ⟨q, 8, none⟩ = some (.int .i64 chi)) ∧ WT12 w0 wr W) := fun W ht => by
          have h1 := ht.box HC3R.out (by decide) (by decide)
          have h2 := ht.box HQR.out (by decide) (by decide)
          exact ⟨⟨h1.cell 0, h2.cell 5, h2.cell 6, h2.cell 7, h2.cell 8⟩, ht⟩
        gi_wp2_with fail
        refine drawn_region_in (fun W => (W.cell? ⟨b3, 0, none⟩ = some (.pointer (some ⟨p, 0, none⟩)) ∧ W.cell? ⟨q, 5, none⟩ = some (.int .i64 (m : Int)) ∧ W.cell? ⟨q, 6, none⟩ = some (.int .i64 csu) ∧ W.cell? ⟨q, 7, none⟩ = some (.int .i64 clo) ∧ W.cell? ⟨q, 8, none⟩ = some (.int .i64 chi)) ∧ WT12 w0 wr W) [17] (by kernel_rfl) (by kernel_rfl) ?_
        have HTD : Hid (Turn (fun _ => False) wr (World.drew wr)) := (Turn.refl _ wr).drew
        have hS0 := HSK.out _ (WT12.of HTD.out)
        generalize World.drew wr = wd at *
        refine drawn_take 0 53 (.pointer (some ⟨p, 0, none⟩)) rfl rfl (by kernel_rfl) (by kernel_rfl) (by kernel_rfl) (by kernel_rfl) (fun _ _ _ h => h) (by rfl) (by assumption) (by intro w hSw; obtain ⟨⟨hS1, hS2, hS3, hS4, hS5⟩, hS6⟩ := hSw; go_simp) ?_
        try simp only [List.setIfInBounds_toArray, List.set_cons_zero, List.set_cons_succ]
        refine drawn_take 1 54 (.pointer (some ⟨q, 5, none⟩)) rfl rfl (by kernel_rfl) (by kernel_rfl) (by kernel_rfl) (by kernel_rfl) (fun _ _ _ h => h) (by rfl) (by assumption) (by intro w hSw; obtain ⟨⟨hS1, hS2, hS3, hS4, hS5⟩, hS6⟩ := hSw; go_simp) ?_
        try simp only [List.setIfInBounds_toArray, List.set_cons_zero, List.set_cons_succ]
        refine drawn_take 2 55 (.pointer (some ⟨q, 5, none⟩)) rfl rfl (by kernel_rfl) (by kernel_rfl) (by kernel_rfl) (by kernel_rfl) (fun _ _ _ h => h) (by rfl) (by assumption) (by intro w hSw; obtain ⟨⟨hS1, hS2, hS3, hS4, hS5⟩, hS6⟩ := hSw; go_simp) ?_
        try simp only [List.setIfInBounds_toArray, List.set_cons_zero, List.set_cons_succ]
        refine drawn_take 3 56 (.int .i64 (m : Int)) rfl rfl (by kernel_rfl) (by kernel_rfl) (by kernel_rfl) (by kernel_rfl) (fun _ _ _ h => h) (by rfl) (by assumption) (by intro w hSw; obtain ⟨⟨hS1, hS2, hS3, hS4, hS5⟩, hS6⟩ := hSw; go_simp) ?_
        try simp only [List.setIfInBounds_toArray, List.set_cons_zero, List.set_cons_succ]
        refine drawn_take 4 57 (.int .u64 (m : Int)) rfl rfl (by kernel_rfl) (by kernel_rfl) (by kernel_rfl) (by kernel_rfl) (fun _ _ _ h => h) (by rfl) (by assumption) (by intro w hSw; obtain ⟨⟨hS1, hS2, hS3, hS4, hS5⟩, hS6⟩ := hSw; go_simp) ?_
        try simp only [List.setIfInBounds_toArray, List.set_cons_zero, List.set_cons_succ]
        refine drawn_take 6 59 (.pointer (some ⟨q, 5, none⟩)) rfl rfl (by kernel_rfl) (by kernel_rfl) (by kernel_rfl) (by kernel_rfl) (fun _ _ _ h => h) (by rfl) (by assumption) (by intro w hSw; obtain ⟨⟨hS1, hS2, hS3, hS4, hS5⟩, hS6⟩ := hSw; go_simp) ?_
        try simp only [List.setIfInBounds_toArray, List.set_cons_zero, List.set_cons_succ]
        refine drawn_take 7 60 (.pointer (some ⟨q, 6, none⟩)) rfl rfl (by kernel_rfl) (by kernel_rfl) (by kernel_rfl) (by kernel_rfl) (fun _ _ _ h => h) (by rfl) (by assumption) (by intro w hSw; obtain ⟨⟨hS1, hS2, hS3, hS4, hS5⟩, hS6⟩ := hSw; go_simp) ?_
        try simp only [List.setIfInBounds_toArray, List.set_cons_zero, List.set_cons_succ]
        refine drawn_take 8 61 (.int .i64 csu) rfl rfl (by kernel_rfl) (by kernel_rfl) (by kernel_rfl) (by kernel_rfl) (fun _ _ _ h => h) (by rfl) (by assumption) (by intro w hSw; obtain ⟨⟨hS1, hS2, hS3, hS4, hS5⟩, hS6⟩ := hSw; go_simp) ?_
        try simp only [List.setIfInBounds_toArray, List.set_cons_zero, List.set_cons_succ]
        refine drawn_take 10 63 (.pointer (some ⟨q, 5, none⟩)) rfl rfl (by kernel_rfl) (by kernel_rfl) (by kernel_rfl) (by kernel_rfl) (fun _ _ _ h => h) (by rfl) (by assumption) (by intro w hSw; obtain ⟨⟨hS1, hS2, hS3, hS4, hS5⟩, hS6⟩ := hSw; go_simp) ?_
        try simp only [List.setIfInBounds_toArray, List.set_cons_zero, List.set_cons_succ]
        refine drawn_take 11 64 (.pointer (some ⟨q, 7, none⟩)) rfl rfl (by kernel_rfl) (by kernel_rfl) (by kernel_rfl) (by kernel_rfl) (fun _ _ _ h => h) (by rfl) (by assumption) (by intro w hSw; obtain ⟨⟨hS1, hS2, hS3, hS4, hS5⟩, hS6⟩ := hSw; go_simp) ?_
        try simp only [List.setIfInBounds_toArray, List.set_cons_zero, List.set_cons_succ]
        refine drawn_take 12 65 (.int .i64 clo) rfl rfl (by kernel_rfl) (by kernel_rfl) (by kernel_rfl) (by kernel_rfl) (fun _ _ _ h => h) (by rfl) (by assumption) (by intro w hSw; obtain ⟨⟨hS1, hS2, hS3, hS4, hS5⟩, hS6⟩ := hSw; go_simp) ?_
        try simp only [List.setIfInBounds_toArray, List.set_cons_zero, List.set_cons_succ]
        refine drawn_take 14 67 (.pointer (some ⟨q, 5, none⟩)) rfl rfl (by kernel_rfl) (by kernel_rfl) (by kernel_rfl) (by kernel_rfl) (fun _ _ _ h => h) (by rfl) (by assumption) (by intro w hSw; obtain ⟨⟨hS1, hS2, hS3, hS4, hS5⟩, hS6⟩ := hSw; go_simp) ?_
        try simp only [List.setIfInBounds_toArray, List.set_cons_zero, List.set_cons_succ]
        refine drawn_take 15 68 (.pointer (some ⟨q, 8, none⟩)) rfl rfl (by kernel_rfl) (by kernel_rfl) (by kernel_rfl) (by kernel_rfl) (fun _ _ _ h => h) (by rfl) (by assumption) (by intro w hSw; obtain ⟨⟨hS1, hS2, hS3, hS4, hS5⟩, hS6⟩ := hSw; go_simp) ?_
        try simp only [List.setIfInBounds_toArray, List.set_cons_zero, List.set_cons_succ]
        refine drawn_take 16 69 (.int .i64 chi) rfl rfl (by kernel_rfl) (by kernel_rfl) (by kernel_rfl) (by kernel_rfl) (fun _ _ _ h => h) (by rfl) (by assumption) (by intro w hSw; obtain ⟨⟨hS1, hS2, hS3, hS4, hS5⟩, hS6⟩ := hSw; go_simp) ?_
        try simp only [List.setIfInBounds_toArray, List.set_cons_zero, List.set_cons_succ]
        refine drawn_any [5] (by kernel_rfl) (by simp) ?_
        refine drawn_cons rfl (fun K hK => ?_) drawn_nil
        go_simp
        refine (wx_num (HWR.out.later HTD.out) m HCM (by have := HLP.out i (Nat.le_refl _); omega)).mono ?_
        rintro e Va ⟨rfl, ha, ta⟩
        have HA := Lib.hid ha
        have hSa := HSK.out _ ((WT12.of HTD.out).trans ta)
        refine hK.out _ _ _ hSa ?_
        clear hK K hS0 ha ta
        try simp only [List.setIfInBounds_toArray, List.set_cons_zero, List.set_cons_succ]
        refine drawn_any [9] (by kernel_rfl) (by simp) ?_
        refine drawn_cons rfl (fun K hK => ?_) drawn_nil
        go_simp
        refine (wx_int HA.out csu HO2.out.1 HO2.out.2 (by have := HLQ.out; omega)).mono ?_
        rintro e Vb ⟨rfl, hb, tb2⟩
        have HB := Lib.hid hb
        have hSb := HSK.out _ (hSa.2.trans tb2)
        refine hK.out _ _ _ hSb ?_
        clear hK K hSa hb tb2 HA
        try simp only [List.setIfInBounds_toArray, List.set_cons_zero, List.set_cons_succ]
        refine drawn_any [13] (by kernel_rfl) (by simp) ?_
        refine drawn_cons rfl (fun K hK => ?_) drawn_nil
        go_simp
        refine (wx_int HB.out clo HO3.out.1 HO3.out.2 (by have := HLQ.out; omega)).mono ?_
        rintro e Vc ⟨rfl, hc, tc2⟩
        have HC := Lib.hid hc
        have hSc := HSK.out _ (hSb.2.trans tc2)
        refine hK.out _ _ _ hSc ?_
        clear hK K hSb hc tc2 HB
        try simp only [List.setIfInBounds_toArray, List.set_cons_zero, List.set_cons_succ]
        refine drawn_last (z := 17) rfl (by kernel_rfl) (by kernel_rfl) (by kernel_rfl) (fun K hK => ?_)
        go_simp
        refine (wx_int HC.out chi HO4.out.1 HO4.out.2 (by have := HLQ.out; omega)).mono ?_
        rintro e Vd ⟨rfl, hd, td⟩
        have hW := HTR.out.trans (hSc.2.trans td)
        refine hK.out _ _ ?_
        clear hK K
        refine goes_on ?_
        have hVS : Turn S V2 Vd := hW.mono fun g _ e => HSW.out V2 (HI.out.turn.trans HT2'.out.1 (fun _ _ e => e)) g e
        refine ⟨HT2'.out.2.trans ⟨hW.size, fun g o _ hk ho => (Turn.block hW g (Array.getElem?_eq_some_iff.1 hk).1 (fun e => ?_)).trans hk⟩, HT2'.out.1.trans hVS (fun _ _ e => e), ?_⟩
        · rcases e.2 with ⟨cs, hc⟩ | ⟨cs, hc⟩
          · rw [show V2.heap[g]? = _ from hc] at hk; cases hk; cases ho
          · rw [show V2.heap[g]? = _ from hc] at hk; cases hk; cases ho
        · refine ⟨by rw [HRB.out]; exact hd, hW.box HC32.out (by decide) (by decide), hW.box HC52.out (by decide) (by decide), ?_, HTX2.out.wt hW, (HI.out.turn.trans HT2'.out.1 (fun _ _ e => e)).trans hVS (fun _ _ e => e)⟩
          rw [lastH_snoc]
          exact hW.box HC62.out (by decide) (by decide)

end Go.Proofs.YticglepkbihldaaGreat

/-
  Stage 12: Encode.
-/
namespace Go.Proofs.YticglepkbihldaaGreat
open Go.RowKit

set_option maxRecDepth 100000

theorem ofT_rise12 {T : List (List UInt8)} (h : T.Pairwise fun x y => Op.bytesLess x y = true) : ofT T = T := by
  obtain ⟨h1, h2⟩ := setG_is Op.bytesLess rises_bytes T
  exact rising_same rises_bytes h1 h h2
theorem wx_len {w wr : World} {p : Nat} {l : List UInt8} (h : Wt w p wr l) : Calls Tryz.prog 31 #[.pointer (some ⟨p, 0, none⟩)] wr fun e w' => e = .returned (.int .i64 (l.length : Int)) ∧ wr = w' := by
  obtain ⟨h0, u, h1, h3, h4⟩ := h
  exact len_any p u l wr h1
/-- The dictionaries of the first dimensions. -/
structure Dx12 (w : World) (b : Nat) (T : Nat → List (List UInt8)) (i : Nat) : Prop where
  out : ∃ cs, Box w b 65 cs ∧ cs.size = 4 ∧ ∀ d, d < i → ∃ D, cs[d]? = some (.pointer D) ∧ DV10 w (.pointer D) (T d)
theorem Dx12.kept {w w' : World} {b : Nat} {T : Nat → List (List UInt8)} {i : Nat} {S : Nat → Prop} (h : Dx12 w b T i) (ht : Turn S w w') (h1 : Apart12 w S) (h2 : ∀ k cs, S k → ¬ Box w k 65 cs) : Dx12 w' b T i := by
  obtain ⟨cs, hb, hc, hd⟩ := h.out
  exact ⟨cs, hb.turn ht (fun e => h2 _ _ e hb), hc, fun d hdN => (hd d hdN).imp fun D ⟨g1, g2⟩ => ⟨g1, g2.kept ht h1⟩⟩
theorem Dx12.wt {w0 a b : World} {g : Nat} {T : Nat → List (List UInt8)} {i : Nat} (h : Dx12 a g T i) (ht : WT12 w0 a b) : Dx12 b g T i :=
  h.kept ht (WS12.apart _ _) fun k cs e hb => by rcases e.type hb with e | e <;> exact absurd e (by decide)
theorem Dx12.later {a b : World} {g : Nat} {T : Nat → List (List UInt8)} {i : Nat} (h : Dx12 a g T i) (ht : Turn (fun _ => False) a b) : Dx12 b g T i := h.kept ht (fun _ _ _ f => f.elim) fun _ _ f => f.elim
/-- One more is laid. -/
theorem Dx12.put {w : World} {b : Nat} {T : Nat → List (List UInt8)} {i : Nat} (h : Dx12 w b T i) (hi : i < 4) (D : Option Addr) (hD : DV10 w (.pointer D) (T i)) : Dx12 (w.setCell ⟨b, i, none⟩ (.pointer D)) b T (i + 1) := by
  obtain ⟨cs, hb, hc, hd⟩ := h.out
  have ht : Turn (fun k => k = b) w (w.setCell ⟨b, i, none⟩ (.pointer D)) := Turn.setCell (S := fun k => k = b) (p := ⟨b, i, none⟩) (Turn.refl _ w) (fun _ => rfl) _
  have ha : Apart12 w (fun k => k = b) := fun k t cs' e hb' => by
    subst e
    have e2 := (box_type12 hb' hb).1
    subst e2
    exact ⟨by decide, by decide, by decide, by decide⟩
  refine ⟨_, hb.set i _, by rw [Array.size_setIfInBounds]; exact hc, fun d hdi => ?_⟩
  by_cases e : d = i
  · subst e
    exact ⟨D, by rw [Array.getElem?_setIfInBounds_self_of_lt (by omega)], hD.kept ht ha⟩
  · obtain ⟨E, g1, g2⟩ := hd d (by omega)
    exact ⟨E, by rw [Array.getElem?_setIfInBounds_ne (Ne.symm e)]; exact g1, g2.kept ht ha⟩

theorem encL_no {L : List R11} {n : Int} (h : fitL L n ≠ 0) : encL L n = [] := if_neg h
theorem encL_ok {L : List R11} {n : Int} (h : fitL L n = 0) : encL L n = fr (payB L n.toNat) := if_pos h

/-- Behind Encode. -/
def Enc12 (w : World) (L : List R11) (n : Int) (e : Ending) (w' : World) : Prop := ∃ v, e = .returned (.tuple #[v, .int .i64 (fitL L n)]) ∧ Made w w' v (encL L n)
set_option maxHeartbeats 8000000 in
theorem encode_any12 (s : Value) (L : List R11) (n : Int) (w : World) (h : SV11 w s L) (hb : fitL L n = 0 → (payB L n.toNat).length ≤ 900000) :
    Calls Tryz.prog 14 #[s, .int .i64 n] w fun e w' => Enc12 w L n e w' := by
  have HS := Lib.hid h
  have HF := Lib.hid (fits_any12 s L n w h)
  have hlen := h.right.2.2
  obtain ⟨p, rfl⟩ := h.ptr
  clear h
  by_cases hfit : fitL L n = 0
  · have HFI := Lib.hid hfit
    have hb2 := hb hfit
    obtain ⟨hok, hall⟩ := fitL_ok.1 hfit
    obtain ⟨N, rfl, hN1, hN4⟩ := okDims_nat hok
    rw [Int.toNat_natCast] at hb2
    have HEN : Hid (encL L (N : Int) = fr (payB L N)) := by show _ = _; rw [encL_ok hfit, Int.toNat_natCast]
    have HALL := Lib.hid (fun r hr => chk_fit (hall r hr))
    obtain ⟨T, hT⟩ : ∃ T, T = dimT L := ⟨_, rfl⟩
    have HTE := Lib.hid hT
    have HTL : Hid (∀ d : Nat, (T d).length ≤ 20000) := fun d => by rw [hT]; exact Nat.le_trans (dimT_len L d) hlen
    have HTO : Hid (∀ d : Nat, ofT (T d) = T d) := fun d => by rw [hT]; exact ofT_rise12 (dimT_up L d)
    have HTI : Hid (∀ r ∈ L, ∀ d, d < N → r.k.dim d ∈ T d) := fun r hr d _ => by rw [hT]; exact (dimT_mem L d _).2 ⟨r, hr, rfl⟩
    have HTX : Hid (∀ d : Nat, d < 4 → textsL L (d : Int) = T d) := fun d hd => by rw [hT]; exact textsL_at hd
    have HPB : Hid (payB L N = enc N ++ dimsB T N ++ (enc L.length ++ rowsB T N 0 L)) := by show _ = _; rw [hT]; unfold payB; rw [List.append_assoc]
    have HPL : Hid ((enc N ++ dimsB T N ++ (enc L.length ++ rowsB T N 0 L)).length ≤ 900000) := by rw [← HPB.out]; exact hb2
    have HDL : Hid (∀ d, d ≤ N → (enc N ++ dimsB T d).length ≤ 900000) := fun d hd => by
      have h1 := HPL.out
      have h2 := dimsB_le T hd
      simp only [List.length_append] at h1 ⊢
      omega
    rw [hfit] at HF
    clear hb hb2 hok hall hT hfit
    have hwN : IntKind.u64.wrap (N : Int) = (N : Int) := by rw [IntKind.wrap_u64]; omega
    have HNL : Hid (N < 18446744073709551616) := by show _ < _; omega
    go_enter Tryz.func14, Tryz.ntmps14
    go_wp2_with fail
    refine HF.out.mono ?_
    rintro e w1 ⟨rfl, t1⟩
    have HT1 := Lib.hid t1
    clear t1 HF
    obtain ⟨b7, hb7⟩ : ∃ b7 : Nat, b7 = w1.heap.size := ⟨_, rfl⟩
    obtain ⟨w3, hw3⟩ : ∃ w3, w3 = (w1.alloc (.cells #[.slice none 0 0] 62)).alloc (.cells #[.pointer none, .pointer none, .pointer none, .pointer none] 65) := ⟨_, rfl⟩
    have HW3 : Hid (Wt w b7 w3 []) := by rw [hw3, hb7]; exact (Wt.new w HT1.out).later ((Turn.refl _ _).alloc _)
    have HD3 : Hid (Dx12 w3 (b7 + 1) T 0) := by
      rw [hw3, hb7]
      have h := Box.new (w1.alloc (.cells #[.slice none 0 0] 62)) 65 #[.pointer none, .pointer none, .pointer none, .pointer none]
      rw [World.size_alloc] at h
      exact ⟨_, h, rfl, fun d hd => absurd hd (Nat.not_lt_zero _)⟩
    have HW3E := Lib.hid hw3; have HB7 := Lib.hid hb7
    clear hw3 hb7
    go_wp2_with fail
    rw [← HW3E.out, ← HB7.out]
    go_wp2_with fail
    refine (wx_num HW3.out N HNL (by simp)).mono ?_
    rintro e w4 ⟨rfl, h4, t4⟩
    rw [List.nil_append] at h4
    have HW4 : Hid (Wt w b7 w4 (enc N ++ dimsB T 0)) := by show Wt _ _ _ (_ ++ []); rw [List.append_nil]; exact h4
    have HD4 := Lib.hid (HD3.out.wt t4)
    clear h4 t4 hwN
    go_wp2_with fail
    go_loopw [20] (fun x20 wr => ∃ i : Nat, x20 = .int .i64 (i : Int) ∧ i ≤ N ∧ Wt w b7 wr (enc N ++ dimsB T i) ∧ Dx12 wr (b7 + 1) T i) (fun x20 _ => N - (intOf x20).toNat)
    case atStart => exact ⟨0, rfl, Nat.zero_le _, HW4.out, HD4.out⟩
    case round =>
      clear HW4 HD4
      obtain ⟨i, rfl, hi, hw, hd⟩ := hrel
      have HWR := Lib.hid hw; have HDR := Lib.hid hd
      clear hw hd
      by_cases hlt : i < N
      · have hil : (i : Int) < N := by omega
        have hi4 : (i : Int) < 4 := by omega
        have htx := texts_any12 (.pointer p) L (i : Int) wr (HS.out.later HWR.out.turn)
        rw [HTX.out i (by omega)] at htx
        have HTXT := Lib.hid htx
        have HDS : Hid (dimsB T (i + 1) = dimsB T i ++ dimB (T i)) := rfl
        have HLI : Hid ((enc N ++ dimsB T i ++ dimB (T i)).length ≤ 900000) := by rw [List.append_assoc, ← HDS.out]; exact HDL.out (i + 1) (by omega)
        clear htx
        go_wp2_with fail
        refine HTXT.out.mono ?_
        rintro e w5 ⟨v, rfl, hv, t5⟩
        obtain ⟨A, c, rfl⟩ := hv.rd.shape
        have HV := Lib.hid hv; have HT5 := Lib.hid t5
        clear hv t5 HTXT
        go_wp2_with fail
        refine (puttexts_any12 w b7 _ _ (T i) w5 (HWR.out.later HT5.out) HV.out (HTL.out i) HLI.out).mono ?_
        rintro e w6 ⟨D, rfl, hd, hw, ht⟩
        rw [HTO.out] at hd
        rw [List.append_assoc, ← HDS.out] at hw
        have HDD := Lib.hid hd; have HW6 := Lib.hid hw
        have HDX := Lib.hid ((HDR.out.later HT5.out).wt ht)
        obtain ⟨cs, hbx, hcs, -⟩ := HDX.out.out
        obtain ⟨x0, hx0⟩ : ∃ x0, w6.cell? ⟨b7 + 1, i, none⟩ = some x0 := ⟨cs[i], by rw [hbx.cell]; exact Array.getElem?_eq_getElem (by omega)⟩
        have hfz := hbx.free i
        have HPT := Lib.hid (HDX.out.put (show i < 4 by omega) D HDD.out)
        have HTS : Hid (Turn (fun k => k = b7 + 1) w6 (w6.setCell ⟨b7 + 1, i, none⟩ (.pointer D))) := Turn.setCell (S := fun k => k = b7 + 1) (p := ⟨b7 + 1, i, none⟩) (Turn.refl _ w6) (fun _ => rfl) _
        have HWS : Hid (Wt w b7 (w6.setCell ⟨b7 + 1, i, none⟩ (.pointer D)) (enc N ++ dimsB T (i + 1))) := by
          obtain ⟨g0, u, ⟨g1, g2⟩, g3, g4⟩ := hw
          refine ⟨g0, u, ⟨g1.turn HTS.out (by omega), g2.turn HTS.out (fun x hx e => ?_)⟩, g3, g4.trans HTS.out (fun x hx e => by omega)⟩
          subst e
          exact g2.ne_box hbx (by decide) hx
        clear hd hw ht hbx hcs
        go_wp2
        go_roundw
        case rel => exact ⟨i + 1, by go_num, hlt, HWS.out, HPT.out⟩
        case measure => simp [intOf]; omega
      · obtain rfl : i = N := by omega
        have hN4i : (i : Int) ≤ 4 := by omega
        have HTX2 : Hid (Tx12 wr (.slice (some ⟨b7 + 1, 0, none⟩) i 4) T i) := by
          obtain ⟨cs, hbx, hcs, hd⟩ := HDR.out.out
          exact ⟨b7 + 1, 4, cs, rfl, hbx, hd⟩
        have HPR := Lib.hid (putrows_any12 w b7 _ (.pointer p) L _ T i wr HWR.out HS.out HTX2.out hN4 HTI.out (fun r hr => ⟨(HALL.out r hr).h0, (HALL.out r hr).h1⟩) (fun d _ => HTL.out d) HPL.out)
        have hl9 : ((enc i ++ dimsB T i ++ (enc L.length ++ rowsB T i 0 L)).length : Int) ≤ 4194304 := by have := HPL.out; omega
        have hl8 := Lib.hid hl9
        clear hl9
        go_wp2_with fail
        refine HPR.out.mono ?_
        rintro e w5 ⟨rfl, h5⟩
        have HW5 := Lib.hid h5
        clear h5 HPR
        rw [← HPB.out] at HW5 HPL hl8
        have hl9 := hl8.out
        generalize payB L i = P at *
        go_wp2_with fail
        refine (wx_len HW5.out).mono ?_
        rintro e w6 ⟨rfl, rfl⟩
        go_wp2_with fail
        refine (wt_bytes HW5.out (by have := HPL.out; omega)).mono ?_
        rintro e w7 ⟨v, rfl, hm⟩
        obtain ⟨A, c, rfl⟩ := hm.1.shape
        have HM := Lib.hid hm
        clear hm
        go_wp2_with fail
        refine (frame_put _ P w7 HM.out.1.rd HPL.out).mono ?_
        rintro e w8 ⟨v, rfl, hm⟩
        obtain ⟨A8, c8, rfl⟩ := hm.1.shape
        have HM8 := Lib.hid hm
        clear hm
        go_wp2
        go_ret2
        refine ⟨_, by rw [HFI.out]; rfl, ?_⟩
        rw [HEN.out]
        exact ⟨HM8.out.1, HM.out.2.1.trans HM8.out.2.1 (fun _ _ f => f), fun k hk => Nat.le_trans HM.out.2.1.size (HM8.out.2.2 k hk)⟩
  · have HZ := Lib.hid (encL_no hfit)
    obtain ⟨f, hf⟩ : ∃ f, f = fitL L n := ⟨_, rfl⟩
    rw [← hf] at HF hfit
    have HFF := Lib.hid hf
    have hx1 : (f == 0) = false := by rw [beq_eq_false_iff_ne]; exact hfit
    have hx2 : (f != 0) = true := by rw [bne_iff_ne]; exact hfit
    clear hb hf hfit
    go_enter Tryz.func14, Tryz.ntmps14
    go_wp2_with fail
    refine HF.out.mono ?_
    rintro e w1 ⟨rfl, t1⟩
    have HT1 := Lib.hid t1
    clear t1 HF
    go_wp2
    go_ret2
    refine ⟨_, by rw [← HFF.out]; rfl, ?_⟩
    rw [HZ.out]
    exact ⟨By.nil _, HT1.out, fun k hk => by cases hk⟩

end Go.Proofs.YticglepkbihldaaGreat

/-
  Stage 12: Decode.
-/
namespace Go.Proofs.YticglepkbihldaaGreat
open Go.RowKit

set_option maxRecDepth 100000

/-- What Decode answers. -/
def decodeL (b : List UInt8) (n : Int) : Int × List R11 := if okDims n = false then (1, []) else if (takes b).2.2 ≠ 0 then (((takes b).2.2 : Int), []) else if (takes b).2.1 < b.length then (4, []) else decF (takes b).1 n.toNat
theorem decodeL_dims {b : List UInt8} {n : Int} (h : okDims n = false) : decodeL b n = (1, []) := if_pos h
theorem decodeL_take {b : List UInt8} {n : Int} (h : okDims n = true) (h1 : (takes b).2.2 ≠ 0) : decodeL b n = (((takes b).2.2 : Int), []) := by
  unfold decodeL
  rw [if_neg (by rw [h]; simp), if_pos h1]
theorem decodeL_left {b : List UInt8} {n : Int} (h : okDims n = true) (h1 : (takes b).2.2 = 0) (h2 : (takes b).2.1 < b.length) : decodeL b n = (4, []) := by
  unfold decodeL
  rw [if_neg (by rw [h]; simp), if_neg (by omega), if_pos h2]
theorem decodeL_in {b : List UInt8} {n : Int} (h : okDims n = true) (h1 : (takes b).2.2 = 0) (h2 : ¬ (takes b).2.1 < b.length) : decodeL b n = decF (takes b).1 n.toNat := by
  unfold decodeL
  rw [if_neg (by rw [h]; simp), if_neg (by omega), if_neg h2]
/-- What is encoded is decoded as it was. -/
theorem decodeL_enc {l : List R11} {n : Int} (hf : fitL l n = 0) (hr : rightR l = true) (ho : ∀ r ∈ l, okC r.c) (hl : l.length ≤ 20000) (hp : (payB l n.toNat).length ≤ 4194304) : decodeL (encL l n) n = (0, l) := by
  have hd := (fitL_ok.1 hf).1
  have hw := takes_whole _ hp
  rw [encL_ok hf, decodeL_in hd (by rw [hw]) (by rw [hw]; exact Nat.lt_irrefl _), hw]
  obtain ⟨N, rfl, h1, h4⟩ := okDims_nat hd
  rw [Int.toNat_natCast]
  exact decF_back h1 h4 hr ho hf hl
/-- Of fewer bytes nothing comes. -/
theorem decodeL_cut {l : List R11} {n : Int} (hf : fitL l n = 0) (hp : (payB l n.toNat).length ≤ 4194304) {m : Nat} (hm : m < (encL l n).length) : decodeL ((encL l n).take m) n = (3, []) := by
  have hd := (fitL_ok.1 hf).1
  rw [encL_ok hf] at hm ⊢
  have h3 := takes_short _ m hp hm
  rw [decodeL_take hd (by rw [h3]; decide), h3]
  rfl
/-- What is decoded has just those bytes. -/
theorem decodeL_there {b : List UInt8} {n : Int} {l : List R11} (h : decodeL b n = (0, l)) : encL l n = b ∧ fitL l n = 0 ∧ (payB l n.toNat).length ≤ b.length := by
  cases hd : okDims n with
  | false =>
    rw [decodeL_dims hd] at h
    cases congrArg Prod.fst h
  | true =>
    by_cases h1 : (takes b).2.2 = 0
    · by_cases h2 : (takes b).2.1 < b.length
      · rw [decodeL_left hd h1 h2] at h
        cases congrArg Prod.fst h
      · rw [decodeL_in hd h1 h2] at h
        obtain ⟨N, rfl, n1, n4⟩ := okDims_nat hd
        rw [Int.toNat_natCast] at h ⊢
        obtain ⟨e1, e2, e3, e4⟩ := decF_there n4 h
        refine ⟨?_, e3, ?_⟩
        · rw [encL_ok e3, Int.toNat_natCast, e1]
          exact takes_exact h1 h2
        · rw [e1]
          have := takes_sz b h1
          have h5 : (takes b).2.1 = (enc (takes b).1.length).length + (takes b).1.length + 4 := this.1
          omega
    · rw [decodeL_take hd h1] at h
      have := congrArg Prod.fst h
      simp only at this
      omega
theorem decF_none {p : List UInt8} {N : Nat} (h : (decF p N).1 ≠ 0) : (decF p N).2 = [] := by
  unfold decF at *
  split
  · rfl
  · rename_i h1
    rw [if_neg h1] at h
    split
    · rfl
    · rename_i h2
      rw [if_neg h2] at h
      split
      · rfl
      · rename_i h3
        rw [if_neg h3] at h
        split
        · rfl
        · rename_i h4
          rw [if_neg h4] at h
          exact absurd rfl h
theorem decodeL_none {b : List UInt8} {n : Int} (h : (decodeL b n).1 ≠ 0) : (decodeL b n).2 = [] := by
  unfold decodeL at *
  split
  · rfl
  · rename_i h1
    rw [if_neg h1] at h
    split
    · rfl
    · rename_i h2
      rw [if_neg h2] at h
      split
      · rfl
      · rename_i h3
        rw [if_neg h3] at h
        exact decF_none h

set_option maxHeartbeats 8000000 in
theorem decodes_any12 (v : Value) (b : List UInt8) (n : Int) (w : World) (hv : Rd w v b) (hl : b.length ≤ 20000) :
    Calls Tryz.prog 17 #[v, .int .i64 n] w fun e w' => DecA12 w (decodeL b n) e w' := by
  have HDC := Lib.hid (dims_chk12 n w)
  have HV := Lib.hid hv
  obtain ⟨A, c, rfl⟩ := hv.shape
  clear hv
  cases hd : okDims n with
  | false =>
    rw [decodeL_dims hd]
    have hdf : dimsF n = 1 := by unfold dimsF; rw [hd]; rfl
    rw [hdf] at HDC
    clear hd hdf
    go_enter Tryz.func17, Tryz.ntmps17
    go_wp2_with fail
    refine HDC.out.mono ?_
    rintro e w1 ⟨rfl, t1⟩
    have HT1 := Lib.hid t1
    clear t1 HDC
    go_wp2
    go_ret2
    exact ⟨_, rfl, SV11.nil _, fun _ => rfl, HT1.out⟩
  | true =>
    have HLD := Lib.hid hd
    obtain ⟨N, rfl, hN1, hN4⟩ := okDims_nat hd
    have hdf : dimsF (N : Int) = 0 := by unfold dimsF; rw [hd]; rfl
    rw [hdf] at HDC
    have HTK := Lib.hid (fun W (ht : Turn (fun _ => False) w W) => frame_take _ b W (HV.out.later ht) (by omega))
    unfold TakePost at HTK
    by_cases h1 : (takes b).2.2 = 0
    · by_cases h2 : (takes b).2.1 < b.length
      · rw [decodeL_left hd h1 h2]
        rw [h1] at HTK
        have hlt : ((takes b).2.1 : Int) < b.length := by omega
        generalize (takes b).2.1 = k at *
        clear hd hdf h1 h2
        go_enter Tryz.func17, Tryz.ntmps17
        go_wp2_with fail
        refine HDC.out.mono ?_
        rintro e w1 ⟨rfl, t1⟩
        have HT1 := Lib.hid t1
        clear t1 HDC
        go_wp2_with fail
        refine (HTK.out w1 HT1.out).mono ?_
        rintro e w2 ⟨v2, rfl, hr2, t2⟩
        obtain ⟨A2, c2, rfl⟩ := hr2.shape
        have HT2 := Lib.hid t2
        clear hr2 t2 HTK
        go_wp2
        go_ret2
        exact ⟨_, rfl, SV11.nil _, fun _ => rfl, HT1.out.trans HT2.out (fun _ _ f => f)⟩
      · rw [decodeL_in hd h1 h2, Int.toNat_natCast]
        rw [h1] at HTK
        have hlt : ¬ ((takes b).2.1 : Int) < b.length := by omega
        have hsz := takes_sz b h1
        have HPL : Hid ((takes b).1.length ≤ 20000) := by
          show _ ≤ _
          have h5 : (takes b).2.1 = (enc (takes b).1.length).length + (takes b).1.length + 4 := hsz.1
          omega
        generalize (takes b).2.1 = k at *
        generalize (takes b).1 = P at *
        clear hd hdf h1 h2 hsz
        go_enter Tryz.func17, Tryz.ntmps17
        go_wp2_with fail
        refine HDC.out.mono ?_
        rintro e w1 ⟨rfl, t1⟩
        have HT1 := Lib.hid t1
        clear t1 HDC
        go_wp2_with fail
        refine (HTK.out w1 HT1.out).mono ?_
        rintro e w2 ⟨v2, rfl, hr2, t2⟩
        obtain ⟨A2, c2, rfl⟩ := hr2.shape
        have HT2 := Lib.hid t2
        have HR2 := Lib.hid hr2
        clear hr2 t2 HTK
        go_wp2_with fail
        refine (decode_any12 _ P N hN1 hN4 w2 HR2.out HPL.out).mono ?_
        rintro e w3 ⟨s, rfl, hs, hn, t3⟩
        obtain ⟨ps, rfl⟩ := hs.ptr
        have HS := Lib.hid hs; have HN := Lib.hid hn; have HT3 := Lib.hid t3
        clear hs hn t3
        go_wp2
        go_ret2
        exact ⟨_, rfl, HS.out, HN.out, (HT1.out.trans HT2.out (fun _ _ f => f)).trans HT3.out (fun _ _ f => f)⟩
    · rw [decodeL_take hd h1]
      have hx2 : ((((takes b).2.2 : Int) != 0) = true) := by rw [bne_iff_ne]; omega
      have hx1 : ((((takes b).2.2 : Int) == 0) = false) := by rw [beq_eq_false_iff_ne]; omega
      generalize (takes b).2.2 = f at *
      clear hd hdf h1
      go_enter Tryz.func17, Tryz.ntmps17
      go_wp2_with fail
      refine HDC.out.mono ?_
      rintro e w1 ⟨rfl, t1⟩
      have HT1 := Lib.hid t1
      clear t1 HDC
      go_wp2_with fail
      refine (HTK.out w1 HT1.out).mono ?_
      rintro e w2 ⟨v2, rfl, hr2, t2⟩
      obtain ⟨A2, c2, rfl⟩ := hr2.shape
      have HT2 := Lib.hid t2
      clear hr2 t2 HTK
      go_wp2
      go_ret2
      exact ⟨_, rfl, SV11.nil _, fun _ => rfl, HT1.out.trans HT2.out (fun _ _ f => f)⟩

end Go.Proofs.YticglepkbihldaaGreat

/-
  Stage 11: the program's Total, and Same by slices.Equal.
-/
namespace Go.Proofs.YticglepkbihldaaGreat
open Go.RowKit

set_option maxRecDepth 100000

theorem run_neq_row11 (f g : R11) (W : World) (b : Bool) (h : decide (f = g) = b) : (binOp .neq 52 (rv11 f) (rv11 g)).run Tryz.prog W = .ok (.bool (!b)) W := by rw [run_neq_row, h]

set_option maxHeartbeats 4000000 in
theorem equal11 (a b : Value) (K L : List R11) (w : World) (ha : RdE ER w a K) (hb : RdE ER w b L) (hl : L.length ≤ 20000) :
    Calls Tryz.prog 38 #[a, b] w fun e w' => e = .returned (.bool (decide (K = L))) ∧ Turn (fun _ => False) w w' := by
  have HA := Lib.hid ha; have HB := Lib.hid hb
  obtain ⟨A, c, rfl⟩ := ha.shape
  obtain ⟨B, d, rfl⟩ := hb.shape
  clear ha hb
  by_cases hne : K.length = L.length
  · have HL := Lib.hid hne
    have HNE : Hid ((K.length : Int) = (L.length : Int)) := by show (K.length : Int) = _; omega
    rw [hne]
    have HA2 : Hid (RdE ER w (.slice A L.length c) K) := by have h := HA.out; rw [hne] at h; exact h
    clear HA hne HNE
    go_enter Tryz.func38, Tryz.ntmps38
    go_wp2_with fail
    go_loopw [13] (fun x13 wr => ∃ i : Nat, x13 = .int .i64 (i : Int) ∧ i ≤ L.length ∧ K.take i = L.take i ∧ Turn (fun _ => False) w wr) (fun x13 _ => L.length - (intOf x13).toNat)
    case atStart => exact ⟨0, rfl, Nat.zero_le _, rfl, Turn.refl _ _⟩
    case round =>
      obtain ⟨i, rfl, hi, he, ht⟩ := hrel
      have HE := Lib.hid he; have HT := Lib.hid ht
      clear he ht
      by_cases hlt : i < L.length
      · obtain ⟨y, hy⟩ : ∃ y, L[i]? = some y := ⟨_, List.getElem?_eq_getElem hlt⟩
        obtain ⟨x, hx⟩ : ∃ x, K[i]? = some x := ⟨_, List.getElem?_eq_getElem (by rw [HL.out]; exact hlt)⟩
        obtain ⟨ad, rfl, hc⟩ := row_at11 HA2.out hx
        obtain ⟨bd, rfl, hd⟩ := row_at11 HB.out hy
        obtain ⟨c0, c1, c2, c3, c4, c5, c6, c7, c8⟩ := hc wr HT.out
        obtain ⟨d0, d1, d2, d3, d4, d5, d6, d7, d8⟩ := hd wr HT.out
        have hil : (i : Int) < L.length := by omega
        have hgd := fun X Y => guard_row11 .neq X Y x y
        by_cases hxy : x = y
        · have hne := fun W => run_neq_row11 x y W true (decide_eq_true hxy)
          simp only [Bool.not_true] at hne
          have HNX : Hid (K.take (i + 1) = L.take (i + 1)) := by
            obtain ⟨h1, e1⟩ := List.getElem?_eq_some_iff.1 hx
            obtain ⟨h2, e2⟩ := List.getElem?_eq_some_iff.1 hy
            show _ = _
            rw [List.take_succ_eq_append_getElem h1, List.take_succ_eq_append_getElem h2, HE.out, e1, e2, hxy]
          clear hc hd hx hy hxy
          go_wp2_with fail
          go_quiet (fail)
          go_wp2
          go_roundw
          case rel => exact ⟨i + 1, by go_num, hlt, HNX.out, HT.out.drewN nq⟩
          case measure => simp [intOf]; omega
        · have hne := fun W => run_neq_row11 x y W false (decide_eq_false hxy)
          simp only [Bool.not_false] at hne
          have HNO : Hid (decide (K = L) = false) := decide_eq_false fun e => by
            rw [e, hy] at hx
            cases hx
            exact hxy rfl
          clear hc hd hx hy hxy
          go_wp2_with fail
          go_quiet (fail)
          go_wp2
          go_ret
          rw [HNO.out]
          exact ⟨rfl, HT.out.drewN nq⟩
      · obtain rfl : i = L.length := by omega
        have HYE : Hid (decide (K = L) = true) := decide_eq_true (by
          have h := HE.out
          rw [List.take_length, List.take_of_length_le (by rw [HL.out]; exact Nat.le_refl _)] at h
          exact h)
        go_wp2
        go_ret
        rw [HYE.out]
        exact ⟨rfl, HT.out⟩
  · have HNO : Hid (decide (K = L) = false) := decide_eq_false fun e => hne (by rw [e])
    have hn : ¬ ((K.length : Int) = (L.length : Int)) := by omega
    have hnb : ((K.length : Int) == (L.length : Int)) = false := by rw [beq_eq_false_iff_ne]; exact hn
    have hnb2 : ((K.length : Int) != (L.length : Int)) = true := by rw [bne_iff_ne]; exact hn
    clear hne hn
    go_enter Tryz.func38, Tryz.ntmps38
    go_wp2_with fail
    go_ret
    rw [HNO.out]
    exact ⟨rfl, Turn.refl _ _⟩

set_option maxHeartbeats 1000000 in
theorem same_any11 (s t : Value) (K L : List R11) (w : World) (h : SV11 w s K) (g : SV11 w t L) : Calls Tryz.prog 18 #[s, t] w fun e w' => e = .returned (.bool (decide (K = L))) ∧ Turn (fun _ => False) w w' := by
  have HA := Lib.hid (all_any11 s K w h)
  have HB := Lib.hid (all_any11 t L w g)
  have hl := g.right.2.2
  obtain ⟨p, rfl⟩ := h.ptr
  obtain ⟨q, rfl⟩ := g.ptr
  clear h g
  go_enter Tryz.func18, Tryz.ntmps18
  go_wp2_with fail
  refine HA.out.mono ?_
  rintro e w1 ⟨s1, rfl, h1, hw⟩
  replace hw := hw.symm
  subst hw
  obtain ⟨A, c, rfl⟩ := h1.shape
  have H1 := Lib.hid h1
  clear h1
  go_wp2_with fail
  refine HB.out.mono ?_
  rintro e w1 ⟨s2, rfl, h2, hw⟩
  replace hw := hw.symm
  subst hw
  obtain ⟨B, d, rfl⟩ := h2.shape
  have H2 := Lib.hid h2
  clear h2
  have HE := Lib.hid (equal11 _ _ K L w H1.out H2.out hl)
  go_wp2_with fail
  refine HE.out.mono ?_
  rintro e w1 ⟨rfl, t1⟩
  have HT := Lib.hid t1
  clear t1
  go_wp2
  go_ret
  exact ⟨rfl, HT.out⟩

end Go.Proofs.YticglepkbihldaaGreat
