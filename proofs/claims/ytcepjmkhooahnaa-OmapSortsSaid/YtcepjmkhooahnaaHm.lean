
/-
  Stage 6: texts that came in; what texts put one behind the other come to.
-/
import Derived.Test.YtcepjmkhooahnaaHks
import Derived.Test.YtcepjmkhooahnaaHg
namespace Go.Proofs.Ytcepjmkhooahnaa
open Go.RowKit Go.ChangeShapes Go.WideShapes Go.Deep

def ES : El (List UInt8) where
  sz := 1
  enc s := [.string ⟨s.toArray⟩]
  len _ := rfl
  one s u hu := by rw [List.mem_singleton.1 hu]; rfl
theorem open_str {H : Type} {enc : TypeId × Value → H} {W : World} (n : Nat) (cs : List Value) (y : DataW H × List MemPlace) (hl : cs.length = ES.sz) (h : DataW.trod enc Try.prog W 0 (fun _ => true) true n 9 cs = some y) :
    ∃ x, cs = ES.enc x ∧ x.length ≤ maxLen := by
  match cs, hl with
  | [c0], _ =>
    obtain ⟨S, k0, _, sw⟩ := DataW.trod_string Try.underlying9 h
    simp only [List.cons.injEq, and_true] at k0
    subst k0
    exact ⟨S.data.toList, by simp [ES], by rw [Array.length_toList]; exact sw⟩
theorem open_strs {H : Type} {enc : TypeId × Value → H} {W : World} {v : Value} {d : DataW H} {p : List MemPlace} {a : Option Addr} {len cap : Nat} (hv : v = .slice a len cap)
    (h : DataW.Trod enc Try.prog W 0 (fun _ => true) true 46 v d p) : ∃ l : List (List UInt8), RdE ES W v l ∧ l.length ≤ maxLen ∧ ∀ x ∈ l, x.length ≤ maxLen :=
  open_elems ES (fun x => x.length ≤ maxLen) Try.underlying46 (by kernel_rfl) hv h open_str
theorem str_in {w : World} {A : Option Addr} {n c : Nat} {l : List (List UInt8)} (h : RdE ES w (.slice A n c) l) {j : Nat} {s : List UInt8} (hj : l[j]? = some s) :
    ∃ ad, A = some ad ∧ ∀ W, Turn (fun _ => False) w W → W.cell? (ad.add j) = some (.string ⟨s.toArray⟩) := by
  obtain ⟨ad, hA, _⟩ := h.cells hj
  refine ⟨ad, hA, fun W ht => ?_⟩
  obtain ⟨ad', hA', hc⟩ := (h.later ht).cells hj
  rw [hA] at hA'
  cases hA'
  have := hc 0 _ rfl
  simpa [ES] using this

section
variable {K V : Type} [DecidableEq K] {lt : K → K → Bool}
theorem put_mem (hr : Rises lt) {k : K} {v : V} {p : K × V} : ∀ {L : List (K × V)} (_ : Up lt L), p ∈ putK lt L k v ↔ p = (k, v) ∨ (p ∈ L ∧ p.1 ≠ k)
  | [], _ => by rw [putK_nil]; simp
  | q :: L, hu => by
    have hu2 := up_cons.1 hu
    have ih := put_mem hr (k := k) (v := v) (p := p) hu2.2
    have habove : ∀ a, a ∈ L → lt q.1 a.1 = true := fun a ha => by
      obtain ⟨i, hi, e⟩ := List.mem_iff_getElem.1 ha
      exact hu2.1 i a (by rw [List.getElem?_eq_getElem hi, e])
    rw [putK_cons]
    by_cases h : lt q.1 k = true
    · rw [if_pos h, List.mem_cons, ih, List.mem_cons]
      constructor
      · rintro (e | e | ⟨h1, h2⟩)
        · subst e; exact .inr ⟨.inl rfl, fun e => by rw [e, hr.irr] at h; cases h⟩
        · exact .inl e
        · exact .inr ⟨.inr h1, h2⟩
      · rintro (e | ⟨e | h1, h2⟩)
        · exact .inr (.inl e)
        · exact .inl e
        · exact .inr (.inr ⟨h1, h2⟩)
    · rw [if_neg h]
      by_cases e : q.1 = k
      · rw [if_pos e, List.mem_cons, List.mem_cons]
        constructor
        · rintro (h1 | h1)
          · exact .inl h1
          · refine .inr ⟨.inr h1, fun e2 => ?_⟩
            have := habove p h1
            rw [e2, e, hr.irr] at this
            cases this
        · rintro (h1 | ⟨h1 | h1, h2⟩)
          · exact .inl h1
          · subst h1; exact absurd e h2
          · exact .inr h1
      · rw [if_neg e, List.mem_cons]
        have hk : lt k q.1 = true := hr.tot _ _ e (by simpa using h)
        constructor
        · rintro (h1 | h1)
          · exact .inl h1
          · refine .inr ⟨h1, fun e2 => ?_⟩
            rcases List.mem_cons.1 h1 with h3 | h3
            · subst h3; exact e e2
            · have := hr.tr _ _ _ hk (habove p h3)
              rw [e2, hr.irr] at this
              cases this
        · rintro (h1 | ⟨h1, _⟩)
          · exact .inl h1
          · exact .inr h1
theorem has_iff (hr : Rises lt) {L : List (K × V)} (hu : Up lt L) (k : K) : hasK lt L k = true ↔ ∃ p ∈ L, p.1 = k := by
  rw [hasK_mem hr hu]
  constructor
  · rintro ⟨i, p, h1, h2⟩
    exact ⟨p, List.mem_of_getElem? h1, h2⟩
  · rintro ⟨p, h1, h2⟩
    obtain ⟨i, hi, e⟩ := List.mem_iff_getElem.1 h1
    exact ⟨i, p, by rw [List.getElem?_eq_getElem hi, e], h2⟩
end

/-- Texts' keys behind n puts: each with its last place. -/
structure SortRel (l : List (List UInt8)) (n : Nat) (L : List (List UInt8 × Int)) : Prop where
  up : Up Op.bytesLess L
  len : L.length ≤ n
  sound : ∀ p ∈ L, ∃ v : Nat, p.2 = (v : Int) ∧ v < n ∧ l[v]? = some p.1 ∧ ∀ i, v < i → i < n → ∀ s, l[i]? = some s → s ≠ p.1
  full : ∀ i, i < n → ∀ s, l[i]? = some s → hasK Op.bytesLess L s = true
theorem sort_start (l : List (List UInt8)) : SortRel l 0 [] := ⟨up_nil, Nat.le_refl _, fun p h => (by cases h), fun i h => absurd h (Nat.not_lt_zero i)⟩
theorem sort_step {l : List (List UInt8)} {n : Nat} {L : List (List UInt8 × Int)} (h : SortRel l n L) {s : List UInt8} (hs : l[n]? = some s) : SortRel l (n + 1) (putK Op.bytesLess L s (n : Int)) := by
  refine ⟨put_up rises_bytes h.up _ _, by have := put_len (lt := Op.bytesLess) L s (n : Int); have := h.len; omega, fun p hp => ?_, fun i hi t ht => ?_⟩
  · rcases (put_mem rises_bytes h.up).1 hp with e | ⟨h1, h2⟩
    · subst e
      exact ⟨n, rfl, Nat.lt_succ_self n, hs, fun i h3 h4 => absurd h3 (by omega)⟩
    · obtain ⟨v, h3, h4, h5, h6⟩ := h.sound p h1
      refine ⟨v, h3, by omega, h5, fun i h7 h8 t ht e => ?_⟩
      rcases Nat.lt_or_ge i n with c | c
      · exact h6 i h7 c t ht e
      · obtain rfl : i = n := by omega
        rw [hs] at ht
        cases ht
        exact h2 e.symm
  · rw [has_iff rises_bytes (put_up rises_bytes h.up _ _)]
    by_cases e : t = s
    · exact ⟨(s, (n : Int)), (put_mem rises_bytes h.up).2 (.inl rfl), e.symm⟩
    · have hi2 : i < n := by
        rcases Nat.lt_or_ge i n with c | c
        · exact c
        · obtain rfl : i = n := by omega
          rw [hs] at ht
          cases ht
          exact absurd rfl e
      obtain ⟨p, h1, h2⟩ := (has_iff rises_bytes h.up t).1 (h.full i hi2 t ht)
      exact ⟨p, (put_mem rises_bytes h.up).2 (.inr ⟨h1, by rw [h2]; exact e⟩), h2⟩
/-- The last key of what has come. -/
def lastKey (pre : List (List UInt8 × Int)) : List UInt8 := match pre.getLast? with
  | some p => p.1
  | none => []
theorem last_snoc (pre : List (List UInt8 × Int)) (y : List UInt8 × Int) : lastKey (pre ++ [y]) = y.1 := by unfold lastKey; simp
theorem last_below {L pre : List (List UInt8 × Int)} {y : List UInt8 × Int} (hu : Up Op.bytesLess L) (hp : pre ++ [y] <+: L) (h0 : pre ≠ []) : Op.bytesLess (lastKey pre) y.1 = true := by
  obtain ⟨r, hr⟩ := hp
  unfold lastKey
  rw [List.getLast?_eq_some_getLast h0]
  refine hu (pre.length - 1) pre.length _ y (by have := List.length_pos_iff.2 h0; omega) ?_ ?_
  · rw [← hr, List.append_assoc, List.getElem?_append_left (by have := List.length_pos_iff.2 h0; omega), List.getElem?_eq_getElem (by have := List.length_pos_iff.2 h0; omega), List.getLast_eq_getElem]
  · rw [← hr, List.append_assoc, List.getElem?_append_right (Nat.le_refl _), Nat.sub_self]; rfl
theorem mem_of_pre {L pre : List (List UInt8 × Int)} {y : List UInt8 × Int} (hp : pre ++ [y] <+: L) : y ∈ L := hp.subset (by simp)

end Go.Proofs.Ytcepjmkhooahnaa
