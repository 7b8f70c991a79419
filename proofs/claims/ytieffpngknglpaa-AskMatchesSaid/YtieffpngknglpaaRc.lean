
/-
  What else the document's own reader reads.
-/
import Derived.Test.YtieffpngknglpaaRb
namespace Go.Proofs.Ytieffpngknglpaa
open Go.RowKit

/-- Behind a call on the document's reader: val, and what is left, and the fault; behind a fault nothing. -/
def XPost (q B : Nat) (m : List UInt8) (f : Nat) (w : World) (none val : Value) (t : List UInt8) (f1 : Nat) (e : Ending) (w' : World) : Prop :=
  (f = 0 → e = .returned val ∧ XM w q B w' t f1) ∧ (f ≠ 0 → e = .returned none ∧ XM w q B w' m f)

theorem XPost.ok {q B : Nat} {m : List UInt8} {w : World} {none val : Value} {t : List UInt8} {f1 : Nat} {e : Ending} {w' : World} (h1 : e = .returned val) (h : XM w q B w' t f1) : XPost q B m 0 w none val t f1 e w' :=
  ⟨fun _ => ⟨h1, h⟩, fun n => absurd rfl n⟩
theorem XPost.bad {q B : Nat} {m : List UInt8} {f : Nat} {w : World} {none val : Value} {t : List UInt8} {f1 : Nat} {e : Ending} {w' : World} (hf : f ≠ 0) (h1 : e = .returned none) (h : XM w q B w' m f) : XPost q B m f w none val t f1 e w' :=
  ⟨fun n => absurd n hf, fun _ => ⟨h1, h⟩⟩

set_option maxRecDepth 100000 in
set_option maxHeartbeats 1000000 in
theorem xnum_bad (q B : Nat) (A : Option Addr) (c : Nat) (m : List UInt8) (f : Nat) (hf : f ≠ 0) (w : World) (h : XRd w q B A c m f) :
    Calls Try.prog 34 #[.pointer (some ⟨q, 0, none⟩)] w fun e w' => e = .returned (.int .u64 0) ∧ w = w' := by
  have HX := Lib.hid (xone_bad q B A c m f hf w h)
  have c1 : w.cell? ⟨q, 1, none⟩ = some (.int .i64 f) := h.1.cell 1
  have hf2 : (((f : Int) == 0) = false) := by rw [beq_eq_false_iff_ne]; omega
  have hf3 : (((f : Int) != 0) = true) := by rw [bne_iff_ne]; omega
  clear h hf
  go_enter Try.func34, Try.ntmps34
  go_wp2
  go_loopw [3, 4, 5] (fun x3 x4 x5 wr => x5 = .int .i64 0 ∧ wr = w) (fun _ _ x5 _ => 10 - (intOf x5).toNat)
  case atStart => exact ⟨rfl, rfl⟩
  case round =>
    obtain ⟨rfl, rfl⟩ := hrel
    go_wp2_with (go_at_call 45; refine HX.out.mono ?_; rintro e w1 ⟨rfl, rfl⟩)
    go_ret
    exact ⟨rfl, rfl⟩

theorem xnum (q B : Nat) (A : Option Addr) (c : Nat) (m : List UInt8) (f : Nat) (w : World) (h : XRd w q B A c m f) :
    Calls Try.prog 34 #[.pointer (some ⟨q, 0, none⟩)] w (XPost q B m f w (.int .u64 0) (.int .u64 (rdNum m).1) (m.drop (rdNum m).2.2) (rdNum m).2.1) := by
  by_cases hf : f = 0
  · subst hf
    exact (xnum_any q B A c m w h).mono fun e w' hx => XPost.ok hx.1 hx.2
  · exact (xnum_bad q B A c m f hf w h).mono fun e w' hx => XPost.bad hf hx.1 (hx.2 ▸ XM.refl h)

theorem zag_even (n : Nat) (h : n % 2 < 1) (hn : Hid (n < 18446744073709551616)) : wrap64 (IntKind.u64.wrap ((n : Int) / 2)) = zag n := by
  have a : n < 18446744073709551616 := hn
  rw [IntKind.wrap_u64]
  unfold zag wrap64
  rw [if_pos (by omega)]
  omega
theorem zag_odd (n : Nat) (h : 1 ≤ n % 2) (hn : Hid (n < 18446744073709551616)) : wrap64 (wrap64 (-wrap64 (IntKind.u64.wrap ((n : Int) / 2))) - 1) = zag n := by
  have a : n < 18446744073709551616 := hn
  have e1 : wrap64 (IntKind.u64.wrap ((n : Int) / 2)) = (n : Int) / 2 := by rw [IntKind.wrap_u64]; unfold wrap64; omega
  have e2 : wrap64 (-((n : Int) / 2)) = -((n : Int) / 2) := by unfold wrap64; omega
  rw [e1, e2]
  unfold zag wrap64
  rw [if_neg (by omega)]
  omega

set_option maxRecDepth 100000 in
set_option maxHeartbeats 1000000 in
theorem xbool (q B : Nat) (A : Option Addr) (c : Nat) (m : List UInt8) (f : Nat) (w : World) (h : XRd w q B A c m f) :
    Calls Try.prog 35 #[.pointer (some ⟨q, 0, none⟩)] w (XPost q B m f w (.bool false) (.bool (rdFlag m).1) (m.drop (rdFlag m).2.2) (rdFlag m).2.1) := by
  by_cases hf : f = 0
  · subst hf
    cases m with
    | nil =>
      have HX := Lib.hid (xone_none q B A c w h)
      clear h
      go_enter Try.func35, Try.ntmps35
      go_wp2_with (go_at_call 45; refine HX.out.mono ?_; rintro e w1 ⟨rfl, hk⟩; have HK := Lib.hid hk; clear hk)
      go_ret
      exact XPost.ok rfl HK.out
    | cons b t =>
      obtain ⟨x, hx⟩ : ∃ x : Nat, x = b.toNat := ⟨_, rfl⟩
      have HX := Lib.hid (xone_some q B A c b t w h)
      rw [← hx] at HX
      have hE : rdFlag (b :: t) = if 1 < x then (false, 4, 1) else (x == 1, 0, 1) := by subst hx; rfl
      have HE := Lib.hid hE; clear hE hx h
      by_cases h1 : 1 < x
      · go_enter Try.func35, Try.ntmps35
        go_wp2_with (first
          | (go_at_call 45; refine HX.out.mono ?_; rintro e w1 ⟨rfl, ⟨⟨A2, c2, hx2⟩, ht2⟩⟩; have HX2 : Hid (XM w q B w1 t 0) := ⟨⟨A2, c2, hx2⟩, ht2⟩; have HX3 := Lib.hid hx2; clear hx2 ht2)
          | (go_at_call 46; refine (xbad_any q B A2 c2 t w1 HX3.out).mono ?_; rintro e w2 ⟨rfl, hb⟩; have HBD := Lib.hid hb; clear hb))
        go_ret
        rw [HE.out, if_pos h1]
        exact XPost.ok rfl (HX2.out.trans HBD.out)
      · go_enter Try.func35, Try.ntmps35
        go_wp2_with (go_at_call 45; refine HX.out.mono ?_; rintro e w1 ⟨rfl, hk⟩; have HK := Lib.hid hk; clear hk)
        go_ret
        rw [HE.out, if_neg h1]
        refine XPost.ok ?_ HK.out
        show Ending.returned (.bool ((x : Int) == 1)) = .returned (.bool (x == 1))
        congr 2
        rw [Bool.eq_iff_iff, beq_iff_eq, beq_iff_eq]
        omega
  · have HX := Lib.hid (xone_bad q B A c m f hf w h)
    have HR := Lib.hid (XM.refl h)
    have HF := Lib.hid hf
    clear h hf
    go_enter Try.func35, Try.ntmps35
    go_wp2_with (go_at_call 45; refine HX.out.mono ?_; rintro e w1 ⟨rfl, rfl⟩)
    go_ret
    exact XPost.bad HF.out rfl HR.out

set_option maxRecDepth 100000 in
set_option maxHeartbeats 1000000 in
theorem xtext (q B : Nat) (A : Option Addr) (c : Nat) (m : List UInt8) (f : Nat) (most : Nat) (hmost : most ≤ 1000000) (w : World) (h : XRd w q B A c m f) :
    Calls Try.prog 36 #[.pointer (some ⟨q, 0, none⟩), .int .i64 most] w (XPost q B m f w (.string ⟨#[]⟩) (.string ⟨(rdText most m).1.toArray⟩) (m.drop (rdText most m).2.2) (rdText most m).2.1) := by
  by_cases hf : f = 0
  · subst hf
    have HN := xnum_any q B A c m w h
    unfold XNum at HN
    have hlen : m.length ≤ 9223372036854775807 := by have := h.2.2.2; unfold maxLen at this; omega
    clear h
    obtain ⟨⟨n, g, k⟩, hr⟩ : ∃ r, r = rdNum m := ⟨_, rfl⟩
    rw [← hr] at HN
    have hE : rdText most m = if g ≠ 0 then ([], g, k) else if most < n then ([], 4, k) else if (m.drop k).length < n then ([], 3, k) else ((m.drop k).take n, 0, k + n) := by
      unfold rdText rdCount
      rw [← hr]
      by_cases hg : g = 0
      · subst hg
        by_cases hm : most < n <;> simp [hm]
      · simp [hg]
    have HE := Lib.hid hE; clear hE hr
    have hlen2 : (m.drop k).length ≤ 9223372036854775807 := by rw [List.length_drop]; omega
    obtain ⟨t, ht⟩ : ∃ t, t = m.drop k := ⟨_, rfl⟩
    simp only [← ht] at HN HE hlen2
    have HTT := Lib.hid ht; clear ht hlen
    have HN2 := Lib.hid HN; clear HN
    by_cases hg : g = 0
    · subst hg
      by_cases hm : most < n
      · go_enter Try.func36, Try.ntmps36
        go_wp2_with (first
          | (go_at_call 34; refine HN2.out.mono ?_; rintro e w1 ⟨rfl, ⟨⟨A2, c2, hx2⟩, ht2⟩⟩; have cf : w1.cell? ⟨q, 1, none⟩ = some (.int .i64 0) := hx2.1.cell 1; have HX2 : Hid (XM w q B w1 t 0) := ⟨⟨A2, c2, hx2⟩, ht2⟩; have HX3 := Lib.hid hx2; clear hx2 ht2)
          | (go_at_call 46; refine (xbad_any q B A2 c2 t w1 HX3.out).mono ?_; rintro e w2 ⟨rfl, hb⟩; have HBD := Lib.hid hb; clear hb))
        go_ret
        rw [HE.out, if_neg (by omega), if_pos hm]
        exact XPost.ok rfl (by rw [← HTT.out]; exact HX2.out.trans HBD.out)
      · by_cases hl : t.length < n
        · go_enter Try.func36, Try.ntmps36
          go_wp2_with (go_at_call 34; refine HN2.out.mono ?_; rintro e w1 ⟨rfl, ⟨⟨A2, c2, hx2⟩, ht2⟩⟩; have cf : w1.cell? ⟨q, 1, none⟩ = some (.int .i64 0) := hx2.1.cell 1; have cg : w1.cell? ⟨q, 0, none⟩ = some (.slice A2 t.length c2) := hx2.1.cell 0; have ff : w1.frozen? ⟨q, 1, none⟩ = false := hx2.1.free 1; have HX2 : Hid (XM w q B w1 t 0) := ⟨⟨A2, c2, hx2⟩, ht2⟩; have HX3 := Lib.hid (hx2.fault 3 3 rfl); clear hx2 ht2)
          go_ret
          rw [HE.out, if_neg (by omega), if_neg hm, if_pos hl]
          exact XPost.ok rfl (by rw [← HTT.out]; exact HX2.out.trans HX3.out)
        · go_enter Try.func36, Try.ntmps36
          go_wp2_with (go_at_call 34; refine HN2.out.mono ?_; rintro e w1 ⟨rfl, ⟨⟨A2, c2, hx2⟩, ht2⟩⟩; have cf : w1.cell? ⟨q, 1, none⟩ = some (.int .i64 0) := hx2.1.cell 1; have cg : w1.cell? ⟨q, 0, none⟩ = some (.slice A2 t.length c2) := hx2.1.cell 0; have fg : w1.frozen? ⟨q, 0, none⟩ = false := hx2.1.free 0; have hc2 : t.length ≤ c2 := hx2.2.2.2.1; have hst := (hx2.front n (by omega)).string; have HX2 : Hid (XM w q B w1 t 0) := ⟨⟨A2, c2, hx2⟩, ht2⟩; have HX3 := Lib.hid (hx2.cut n (by omega) _ rfl); clear hx2 ht2)
          all_goals
            go_ret
            rw [HE.out, if_neg (by omega), if_neg hm, if_neg hl]
            refine XPost.ok rfl ?_
            have h3 := HX2.out.trans HX3.out
            have e : m.drop (k + n) = t.drop n := by rw [HTT.out, List.drop_drop]
            rw [e]
            first | simpa [‹c2 = n›] using h3 | simpa [‹¬ c2 = n›] using h3
    · have hf2 : (((g : Int) == 0) = false) := by rw [beq_eq_false_iff_ne]; omega
      have hf3 : (((g : Int) != 0) = true) := by rw [bne_iff_ne]; omega
      have HG := Lib.hid hg; clear hg
      go_enter Try.func36, Try.ntmps36
      go_wp2_with (go_at_call 34; refine HN2.out.mono ?_; rintro e w1 ⟨rfl, ⟨⟨A2, c2, hx2⟩, ht2⟩⟩; have cf : w1.cell? ⟨q, 1, none⟩ = some (.int .i64 g) := hx2.1.cell 1; have HX2 : Hid (XM w q B w1 t g) := ⟨⟨A2, c2, hx2⟩, ht2⟩; clear hx2 ht2)
      go_ret
      rw [HE.out, if_pos HG.out]
      exact XPost.ok rfl (by rw [← HTT.out]; exact HX2.out)
  · have hf2 : (((f : Int) == 0) = false) := by rw [beq_eq_false_iff_ne]; omega
    have hf3 : (((f : Int) != 0) = true) := by rw [bne_iff_ne]; omega
    have HN := Lib.hid (xnum_bad q B A c m f hf w h)
    have cf : w.cell? ⟨q, 1, none⟩ = some (.int .i64 f) := h.1.cell 1
    have HR := Lib.hid (XM.refl h)
    have HF := Lib.hid hf; clear hf h
    go_enter Try.func36, Try.ntmps36
    go_wp2_with (go_at_call 34; refine HN.out.mono ?_; rintro e w1 ⟨rfl, rfl⟩)
    go_ret
    exact XPost.bad HF.out rfl HR.out

end Go.Proofs.Ytieffpngknglpaa
