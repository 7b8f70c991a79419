/-
  Texts laid one behind the other: Q3l Q3m Q3n Q3o Q3p Ka Kb Kc.
-/
import Derived.Test.YtclljogbingjiaaJocaf
import Derived.Lib.SlBytesConst
import Derived.Test.YtclljogbingjiaaJocaa
import Derived.BigQuiet

/-
  Stage 15: what is asked of the program's disk, whatever it lies in (Prog15); one act on both.
-/
namespace Go.Proofs.Ytclljogbingjiaa
open Go.RowKit

set_option maxRecDepth 100000

/-- Behind a call that changes the program's disk alone. -/
def DoesP15 (M : World → (Nat → Prop) → Nat → D15 → Prop) (w : World) (F : Nat → Prop) (g : Nat) (d : D15) (v : Value) (e : Ending) (w' : World) : Prop :=
  e = .returned v ∧ ∃ F', M w' F' g d ∧ Turn F w w' ∧ ∀ k, F' k → F k ∨ w.heap.size ≤ k
def NewP15 (M : World → (Nat → Prop) → Nat → D15 → Prop) (w : World) (e : Ending) (w' : World) : Prop :=
  ∃ g F, e = .returned (.pointer (some ⟨g, 0, none⟩)) ∧ M w' F g D15.new ∧ Turn (fun _ => False) w w' ∧ ∀ k, F k → w.heap.size ≤ k
def ReadP15 (w : World) (r : List UInt8 × Int) (e : Ending) (w' : World) : Prop := ∃ v, e = .returned (.tuple #[v, .int .i64 r.2]) ∧ Rd w' v r.1 ∧ Turn (fun _ => False) w w'
def SaysP15 (w : World) (v : Value) (e : Ending) (w' : World) : Prop := e = .returned v ∧ Turn (fun _ => False) w w'
/-- Bytes that lie apart from blocks. -/
def Far15 (F : Nat → Prop) (v : Value) (b : List UInt8) : Prop := b = [] ∨ ∀ k, v.ownBlock = some k → ¬ F k
/-- The bounds within which the program is called. -/
structure BdP15 (d : D15) : Prop where
  ok : OkD15 d
  len : d.l.length ≤ 9000
theorem BdP15.bd {d : D15} (h : BdP15 d) : Bd15 d := ⟨Nat.le_trans h.len (by decide), h.ok.left⟩

/-- M w F g d: the program's disk d at block g, in the blocks F. -/
structure Prog15 (M : World → (Nat → Prop) → Nat → D15 → Prop) : Prop where
  lt : ∀ {w F g d}, M w F g d → ∀ k, F k → k < w.heap.size
  later : ∀ {w w' F g d}, M w F g d → Turn (fun _ => False) w w' → M w' F g d
  apart : ∀ {w w' F g d r cs}, M w F g d → Turn (fun k => k = r) w w' → ¬ F r → Box w r 30 cs → M w' F g d
  new : ∀ w, Calls Try.prog 9 #[] w fun e w' => NewP15 M w e w'
  app : ∀ {w F g d} (n : List UInt8) (v : Value) (b : List UInt8), M w F g d → BdP15 d → Rd w v b → Far15 F v b → b.length ≤ maxLen →
    Calls Try.prog 21 #[.pointer (some ⟨g, 0, none⟩), sv15 n, v] w fun e w' => DoesP15 M w F g (app15 d n b).1 (.int .i64 (app15 d n b).2) e w'
  sync : ∀ {w F g d} (n : List UInt8), M w F g d → BdP15 d →
    Calls Try.prog 23 #[.pointer (some ⟨g, 0, none⟩), sv15 n] w fun e w' => DoesP15 M w F g (sync15 d n).1 (.int .i64 (sync15 d n).2) e w'
  ren : ∀ {w F g d} (n m : List UInt8), M w F g d → BdP15 d →
    Calls Try.prog 26 #[.pointer (some ⟨g, 0, none⟩), sv15 n, sv15 m] w fun e w' => DoesP15 M w F g (ren15 d n m).1 (.int .i64 (ren15 d n m).2) e w'
  rem : ∀ {w F g d} (n : List UInt8), M w F g d → BdP15 d →
    Calls Try.prog 27 #[.pointer (some ⟨g, 0, none⟩), sv15 n] w fun e w' => DoesP15 M w F g (rem15 d n).1 (.int .i64 (rem15 d n).2) e w'
  read : ∀ {w F g d} (n : List UInt8), M w F g d → BdP15 d →
    Calls Try.prog 25 #[.pointer (some ⟨g, 0, none⟩), sv15 n] w fun e w' => ReadP15 w (read15 d n) e w'
  arm : ∀ {w F g d} (n : Int), M w F g d → BdP15 d → (Lit.int .i64 n).wf = true →
    Calls Try.prog 22 #[.pointer (some ⟨g, 0, none⟩), .int .i64 n] w fun e w' => DoesP15 M w F g (arm15 d n).1 (.int .i64 (arm15 d n).2) e w'
  crash : ∀ {w F g d} (n : Int), M w F g d → BdP15 d → (Lit.int .i64 n).wf = true →
    Calls Try.prog 24 #[.pointer (some ⟨g, 0, none⟩), .int .i64 n] w fun e w' => DoesP15 M w F g (crash15 d n) (.tuple #[]) e w'
  down : ∀ {w F g d}, M w F g d → BdP15 d → Calls Try.prog 11 #[.pointer (some ⟨g, 0, none⟩)] w fun e w' => SaysP15 w (.bool d.down) e w'
  bytes : ∀ {w F g d}, M w F g d → BdP15 d → Calls Try.prog 12 #[.pointer (some ⟨g, 0, none⟩)] w fun e w' => SaysP15 w (.int .i64 (bytes15 d.l)) e w'
  has : ∀ {w F g d} (n : List UInt8), M w F g d → BdP15 d → Calls Try.prog 14 #[.pointer (some ⟨g, 0, none⟩), sv15 n] w fun e w' => SaysP15 w (.bool (hasK ltN d.l n)) e w'
  loose : ∀ {w F g d} (n : List UInt8), M w F g d → BdP15 d → Calls Try.prog 16 #[.pointer (some ⟨g, 0, none⟩), sv15 n] w fun e w' => SaysP15 w (.int .i64 (loose15 d n)) e w'
  names : ∀ {w F g d}, M w F g d → BdP15 d → Calls Try.prog 19 #[.pointer (some ⟨g, 0, none⟩)] w fun e w' => Names15 w (d.l.map (·.1)) e w'

theorem Prog15.turn {M : World → (Nat → Prop) → Nat → D15 → Prop} (hP : Prog15 M) {w w' : World} {F : Nat → Prop} {g : Nat} {d : D15} (h : M w F g d) (ht : Turn (fun _ => False) w w') (_ : ∀ k, F k → ¬ False) : M w' F g d := hP.later h ht
theorem Rd.keep15 {S : Nat → Prop} {w w' : World} {v : Value} {b : List UInt8} (h : Rd w v b) (ht : Turn S w w') (hf : Far15 S v b) : Rd w' v b := by
  rcases hf with rfl | hf
  · obtain ⟨A, c, rfl⟩ := h.shape
    obtain ⟨A', c', e, h1, h2, h3⟩ := h
    exact ⟨A', c', e, h1, h2, fun ad ea j b hj => by simp at hj⟩
  · exact h.turn ht hf

/-- The cells of the act, in its box. -/
def SA15 (b : Nat) (a : AC15) (W : World) : Prop :=
  W.cell? ⟨b, 0, none⟩ = some (.int .i64 a.kind) ∧ W.cell? ⟨b, 1, none⟩ = some (sv15 a.nm) ∧ W.cell? ⟨b, 2, none⟩ = some (sv15 a.to) ∧ W.cell? ⟨b, 3, none⟩ = some a.sl ∧ W.cell? ⟨b, 4, none⟩ = some (.int .i64 a.n)
theorem SA15.of {W : World} {b : Nat} {a : AC15} {t : TypeId} (h : Box W b t (acells15 a)) : SA15 b a W := ⟨h.cell 0, h.cell 1, h.cell 2, h.cell 3, h.cell 4⟩

/-- Both disks. -/
structure Both15 (M : World → (Nat → Prop) → Nat → D15 → Prop) (w : World) (F : Nat → Prop) (g r : Nat) (sl : Value) (d : D15) : Prop where
  prog : M w F g d
  doc : RD15 w r sl d
  apart : ¬ F r
  row : ∀ k, sl.ownBlock = some k → ¬ F k
def Acted15 (M : World → (Nat → Prop) → Nat → D15 → Prop) (w : World) (F : Nat → Prop) (g r : Nat) (d : D15) (e : Ending) (w' : World) : Prop :=
  e = .returned (.bool true) ∧ ∃ F' sl', Both15 M w' F' g r sl' d ∧ Turn (fun k => F k ∨ k = r) w w' ∧ ∀ k, F' k → F k ∨ w.heap.size ≤ k
/-- The program's call, then the document's. -/
theorem both_next15 {M : World → (Nat → Prop) → Nat → D15 → Prop} (hP : Prog15 M) {w w1 w2 : World} {F F1 : Nat → Prop} {g r : Nat} {sl sl2 : Value} {d d2 : D15} (h : Both15 M w F g r sl d)
    (h1 : M w1 F1 g d2) (t1 : Turn F w w1) (f1 : ∀ k, F1 k → F k ∨ w.heap.size ≤ k) (h2 : RD15 w2 r sl2 d2) (t2 : Turn (fun k => k = r) w1 w2) (o2 : Own15 w1 sl sl2) :
    Both15 M w2 F1 g r sl2 d2 ∧ Turn (fun k => F k ∨ k = r) w w2 := by
  have hr : ¬ F1 r := fun hk => by
    rcases f1 r hk with x | x
    · exact h.apart x
    · have := h.doc.box.lt
      omega
  refine ⟨⟨hP.apart h1 t2 hr (h.doc.box.turn t1 h.apart), h2, hr, fun k hk hf => ?_⟩, (t1.mono (fun _ _ f => .inl f)).trans t2 (fun _ _ e => .inr e)⟩
  rcases o2 k hk with x | x
  · rcases f1 k hf with y | y
    · exact h.row k x y
    · have := h.doc.lt k x
      omega
  · have := hP.lt h1 k hf
    omega
theorem both_doc15 {M : World → (Nat → Prop) → Nat → D15 → Prop} {w w1 : World} {F : Nat → Prop} {g r : Nat} {sl : Value} {d : D15} (h : Both15 M w F g r sl d) (t1 : Turn F w w1) : RD15 w1 r sl d :=
  ⟨h.doc.box.turn t1 h.apart, h.doc.row.turn t1 h.row, h.doc.far, fun k hk => Nat.lt_of_lt_of_le (h.doc.lt k hk) t1.size⟩
theorem both_later15 {M : World → (Nat → Prop) → Nat → D15 → Prop} (hP : Prog15 M) {w w1 : World} {F : Nat → Prop} {g r : Nat} {sl : Value} {d : D15} (h : Both15 M w F g r sl d) (t1 : Turn (fun _ => False) w w1) : Both15 M w1 F g r sl d :=
  ⟨hP.turn h.prog t1 (fun _ _ f => f), h.doc.later t1, h.apart, h.row⟩

end Go.Proofs.Ytclljogbingjiaa

/-
  Stage 15: one act on both disks. (Written by tools/mkQ3m.py.)
-/
namespace Go.Proofs.Ytclljogbingjiaa
open Go.RowKit

set_option maxRecDepth 100000

/-- What an act's walk starts from. -/
structure Act15 (M : World → (Nat → Prop) → Nat → D15 → Prop) (w : World) (F : Nat → Prop) (g r : Nat) (sl : Value) (d : D15) (a : AC15) : Prop where
  prog : Prog15 M
  both : Both15 M w F g r sl d
  bd : BdP15 d
  ok : AcOk15 w a
  far : Far15 (fun k => F k ∨ k = r) a.sl a.b
  short : a.nm.length ≤ 60 ∧ a.to.length ≤ 60 ∧ a.b.length ≤ 100
section
variable {M : World → (Nat → Prop) → Nat → D15 → Prop} {w : World} {F : Nat → Prop} {g r : Nat} {sl : Value} {d : D15} {a : AC15}
theorem Act15.mem (h : Act15 M w F g r sl d a) {W : World} (ht : Turn (fun _ => False) w W) : M W F g d := h.prog.turn h.both.prog ht (fun _ _ f => f)
theorem Act15.rd (h : Act15 M w F g r sl d a) {W W1 : World} (ht : Turn (fun _ => False) w W) (t1 : Turn F W W1) : RD15 W1 r sl d := both_doc15 (both_later15 h.prog h.both ht) t1
theorem Act15.bytes (h : Act15 M w F g r sl d a) {W : World} (ht : Turn (fun _ => False) w W) : Rd W a.sl a.b := h.ok.b.later ht
theorem Act15.bytes1 (h : Act15 M w F g r sl d a) {W W1 : World} (ht : Turn (fun _ => False) w W) (t1 : Turn F W W1) : Rd W1 a.sl a.b := (h.bytes ht).keep15 t1 (h.far.imp id (fun f k hk x => f k hk (.inl x)))
theorem Act15.farF (h : Act15 M w F g r sl d a) : Far15 F a.sl a.b := h.far.imp id (fun f k hk x => f k hk (.inl x))
theorem Act15.box (h : Act15 M w F g r sl d a) {W W1 : World} {b : Nat} {t : TypeId} (hb : Box W b t (acells15 a)) (hw : w.heap.size ≤ b) (t1 : Turn F W W1) : Box W1 b t (acells15 a) :=
  hb.turn t1 (fun hk => by have := h.prog.lt h.both.prog b hk; omega)
theorem Act15.box2 (h : Act15 M w F g r sl d a) {W W1 : World} {b : Nat} {t : TypeId} (hb : Box W b t (acells15 a)) (hw : w.heap.size ≤ b) (t1 : Turn (fun k => k = r) W W1) : Box W1 b t (acells15 a) :=
  hb.turn t1 (fun hk => by have := h.both.doc.box.lt; omega)
theorem Act15.ends (h : Act15 M w F g r sl d a) {W W1 W2 : World} {F1 : Nat → Prop} {d2 : D15} {sl2 : Value} (ht : Turn (fun _ => False) w W) (h1 : M W1 F1 g d2) (t1 : Turn F W W1) (f1 : ∀ k, F1 k → F k ∨ W.heap.size ≤ k) (h2 : RD15 W2 r sl2 d2) (t2 : Turn (fun k => k = r) W1 W2) (o2 : Own15 W1 sl sl2)
    (hd : d2 = step15 d a) : Acted15 M w F g r (step15 d a) (.returned (.bool true)) W2 := by
  subst hd
  obtain ⟨x, y⟩ := both_next15 h.prog (both_later15 h.prog h.both ht) h1 t1 f1 h2 t2 o2
  exact ⟨rfl, F1, sl2, x, (ht.mono (fun _ _ f => f.elim)).trans y (fun _ _ e => e), fun k hk => (f1 k hk).imp id (fun z => Nat.le_trans ht.size z)⟩
end

set_option maxHeartbeats 16000000 in
theorem act_append15 (M : World → (Nat → Prop) → Nat → D15 → Prop) (w : World) (F : Nat → Prop) (g r : Nat) (sl : Value) (d : D15) (a : AC15) (h : Act15 M w F g r sl d a) (hk : a.kind = 0) :
    Calls Try.prog 10 #[.pointer (some ⟨g, 0, none⟩), .pointer (some ⟨r, 0, none⟩), .agg (acells15 a)] w fun e w' => Acted15 M w F g r (step15 d a) e w' := by
  have HA := Lib.hid h
  obtain ⟨wb, hwb⟩ : ∃ wb, wb = w.alloc (.cells (acells15 a) 34) := ⟨_, rfl⟩
  obtain ⟨b, hbb⟩ : ∃ b, b = w.heap.size := ⟨_, rfl⟩
  have HTB : Hid (Turn (fun _ => False) w wb) := by rw [hwb]; exact (Turn.refl _ w).alloc _
  have HBX : Hid (Box wb b 34 (acells15 a)) := by rw [hwb, hbb]; exact Box.new w _ _
  have HWB := Lib.hid hwb; have HBB := Lib.hid hbb
  have hk0 : (w.alloc (.cells (acells15 a) 34)).cell? ⟨w.heap.size, 0, none⟩ = some (.int .i64 a.kind) := (Box.new w 34 (acells15 a)).cell 0
  rw [hk] at hk0
  have HST : Hid (step15 d a = (app15 d a.nm a.b).1) := by show _ = _; unfold step15; rw [hk]; rfl
  have HPC : Hid (∀ W, Turn (fun _ => False) w W → Calls Try.prog 21 #[.pointer (some ⟨g, 0, none⟩), sv15 a.nm, a.sl] W fun e w' => DoesP15 M W F g (app15 d a.nm a.b).1 (.int .i64 (app15 d a.nm a.b).2) e w') := fun W ht => HA.out.prog.app _ _ _ (HA.out.mem ht) HA.out.bd (HA.out.bytes ht) HA.out.farF HA.out.ok.bl
  have HRC : Hid (∀ W W1, Turn (fun _ => False) w W → Turn F W W1 → Calls Try.prog 28 #[.pointer (some ⟨r, 0, none⟩), sv15 a.nm, a.sl] W1 fun e w' => Does15 W1 r sl (app15 d a.nm a.b).1 (.int .i64 (app15 d a.nm a.b).2) e w') := fun W W1 ht t1 => ref_append15 r sl d _ _ _ W1 (HA.out.rd ht t1) HA.out.bd.bd (fun f hf => (HA.out.bd.ok.get hf).2) (by have := HA.out.short.1; omega) (HA.out.bytes1 ht t1) (by have := HA.out.short.2.2; omega)
  clear h hk hwb hbb
  generalize app15 d a.nm a.b = p at *
  go_enter Try.func10, Try.ntmps10
  go_wp2_with fail
  rw [← HWB.out, ← HBB.out]
  refine drawn_region (SA15 b a) [] (by kernel_rfl) ?_
  have HTD : Hid (Turn (fun _ => False) w (World.drew wb)) := HTB.out.trans (Turn.refl _ wb).drew (fun _ _ f => f)
  have HBD : Hid (Box (World.drew wb) b 34 (acells15 a)) := HBX.out.turn (S := fun _ => False) (Turn.refl _ wb).drew (fun f => f)
  have hS0 : SA15 b a (World.drew wb) := SA15.of HBD.out
  generalize World.drew wb = wd at *
  refine drawn_take 0 15 (.pointer (some ⟨g, 0, none⟩)) rfl rfl (by kernel_rfl) (by kernel_rfl) (by kernel_rfl) (by kernel_rfl) (fun _ _ _ h => h) (by rfl) (by assumption) (by intro w hSw; obtain ⟨a0, a1, a2, a3, a4⟩ := hSw; go_simp) ?_
  try simp only [List.setIfInBounds_toArray, List.set_cons_zero, List.set_cons_succ]
  refine drawn_take 1 16 (.pointer (some ⟨b, 1, none⟩)) rfl rfl (by kernel_rfl) (by kernel_rfl) (by kernel_rfl) (by kernel_rfl) (fun _ _ _ h => h) (by rfl) (by assumption) (by intro w hSw; obtain ⟨a0, a1, a2, a3, a4⟩ := hSw; go_simp) ?_
  try simp only [List.setIfInBounds_toArray, List.set_cons_zero, List.set_cons_succ]
  refine drawn_take 2 17 (sv15 a.nm) rfl rfl (by kernel_rfl) (by kernel_rfl) (by kernel_rfl) (by kernel_rfl) (fun _ _ _ h => h) (by rfl) (by assumption) (by intro w hSw; obtain ⟨a0, a1, a2, a3, a4⟩ := hSw; go_simp) ?_
  try simp only [List.setIfInBounds_toArray, List.set_cons_zero, List.set_cons_succ]
  refine drawn_take 3 18 (.pointer (some ⟨b, 3, none⟩)) rfl rfl (by kernel_rfl) (by kernel_rfl) (by kernel_rfl) (by kernel_rfl) (fun _ _ _ h => h) (by rfl) (by assumption) (by intro w hSw; obtain ⟨a0, a1, a2, a3, a4⟩ := hSw; go_simp) ?_
  try simp only [List.setIfInBounds_toArray, List.set_cons_zero, List.set_cons_succ]
  refine drawn_take 4 19 a.sl rfl rfl (by kernel_rfl) (by kernel_rfl) (by kernel_rfl) (by kernel_rfl) (fun _ _ _ h => h) (by rfl) (by assumption) (by intro w hSw; obtain ⟨a0, a1, a2, a3, a4⟩ := hSw; go_simp) ?_
  try simp only [List.setIfInBounds_toArray, List.set_cons_zero, List.set_cons_succ]
  refine drawn_take 6 21 (.pointer (some ⟨r, 0, none⟩)) rfl rfl (by kernel_rfl) (by kernel_rfl) (by kernel_rfl) (by kernel_rfl) (fun _ _ _ h => h) (by rfl) (by assumption) (by intro w hSw; obtain ⟨a0, a1, a2, a3, a4⟩ := hSw; go_simp) ?_
  try simp only [List.setIfInBounds_toArray, List.set_cons_zero, List.set_cons_succ]
  refine drawn_take 7 22 (.pointer (some ⟨b, 1, none⟩)) rfl rfl (by kernel_rfl) (by kernel_rfl) (by kernel_rfl) (by kernel_rfl) (fun _ _ _ h => h) (by rfl) (by assumption) (by intro w hSw; obtain ⟨a0, a1, a2, a3, a4⟩ := hSw; go_simp) ?_
  try simp only [List.setIfInBounds_toArray, List.set_cons_zero, List.set_cons_succ]
  refine drawn_take 8 23 (sv15 a.nm) rfl rfl (by kernel_rfl) (by kernel_rfl) (by kernel_rfl) (by kernel_rfl) (fun _ _ _ h => h) (by rfl) (by assumption) (by intro w hSw; obtain ⟨a0, a1, a2, a3, a4⟩ := hSw; go_simp) ?_
  try simp only [List.setIfInBounds_toArray, List.set_cons_zero, List.set_cons_succ]
  refine drawn_take 9 24 (.pointer (some ⟨b, 3, none⟩)) rfl rfl (by kernel_rfl) (by kernel_rfl) (by kernel_rfl) (by kernel_rfl) (fun _ _ _ h => h) (by rfl) (by assumption) (by intro w hSw; obtain ⟨a0, a1, a2, a3, a4⟩ := hSw; go_simp) ?_
  try simp only [List.setIfInBounds_toArray, List.set_cons_zero, List.set_cons_succ]
  refine drawn_take 10 25 a.sl rfl rfl (by kernel_rfl) (by kernel_rfl) (by kernel_rfl) (by kernel_rfl) (fun _ _ _ h => h) (by rfl) (by assumption) (by intro w hSw; obtain ⟨a0, a1, a2, a3, a4⟩ := hSw; go_simp) ?_
  try simp only [List.setIfInBounds_toArray, List.set_cons_zero, List.set_cons_succ]
  refine drawn_any [5] (by kernel_rfl) (by simp) ?_
  refine drawn_cons rfl (fun K hK => ?_) drawn_nil
  go_simp
  refine (HPC.out wd HTD.out).mono ?_
  rintro e w1 ⟨rfl, F1, m1, t1, f1⟩
  have HB1 := Lib.hid (HA.out.box HBD.out (Nat.le_of_eq HBB.out.symm) t1)
  have HM1 := Lib.hid m1; have HT1 := Lib.hid t1; have HF1 := Lib.hid f1
  have hS1 : SA15 b a w1 := SA15.of HB1.out
  clear m1 t1 f1 hS0 HPC
  refine hK.out _ _ _ hS1 ?_
  clear hK K
  try simp only [List.setIfInBounds_toArray, List.set_cons_zero, List.set_cons_succ]
  refine drawn_any [11] (by kernel_rfl) (by simp) ?_
  refine drawn_cons rfl (fun K hK => ?_) drawn_nil
  go_simp
  refine (HRC.out wd w1 HTD.out HT1.out).mono ?_
  rintro e w2 ⟨rfl, sl2, r2, t2, o2⟩
  have HB2 := Lib.hid (HA.out.box2 HB1.out (Nat.le_of_eq HBB.out.symm) t2)
  have HE : Hid (Acted15 M w F g r (step15 d a) (.returned (.bool true)) w2) := HA.out.ends HTD.out HM1.out HT1.out HF1.out r2 t2 o2 HST.out.symm
  have hS2 : SA15 b a w2 := SA15.of HB2.out
  clear r2 t2 o2 hS1 HRC
  refine hK.out _ _ _ hS2 ?_
  clear hK K
  try simp only [List.setIfInBounds_toArray, List.set_cons_zero, List.set_cons_succ]
  refine drawn_take 12 27 (.bool true) rfl rfl (by kernel_rfl) (by kernel_rfl) (by kernel_rfl) (by kernel_rfl) (fun _ _ _ h => h) (by rfl) (by assumption) (by intro w hSw; obtain ⟨a0, a1, a2, a3, a4⟩ := hSw; go_simp) ?_
  try simp only [List.setIfInBounds_toArray, List.set_cons_zero, List.set_cons_succ]
  refine drawn_last1 13 6 (.bool true) rfl rfl (by kernel_rfl) (by kernel_rfl) (by rfl) (by intro w; go_simp) hS2 ?_
  try simp only [List.setIfInBounds_toArray, List.set_cons_zero, List.set_cons_succ]
  clear hS2
  go_wp2
  go_ret
  exact HE.out

set_option maxHeartbeats 16000000 in
theorem act_sync15 (M : World → (Nat → Prop) → Nat → D15 → Prop) (w : World) (F : Nat → Prop) (g r : Nat) (sl : Value) (d : D15) (a : AC15) (h : Act15 M w F g r sl d a) (hk : a.kind = 1) :
    Calls Try.prog 10 #[.pointer (some ⟨g, 0, none⟩), .pointer (some ⟨r, 0, none⟩), .agg (acells15 a)] w fun e w' => Acted15 M w F g r (step15 d a) e w' := by
  have HA := Lib.hid h
  obtain ⟨wb, hwb⟩ : ∃ wb, wb = w.alloc (.cells (acells15 a) 34) := ⟨_, rfl⟩
  obtain ⟨b, hbb⟩ : ∃ b, b = w.heap.size := ⟨_, rfl⟩
  have HTB : Hid (Turn (fun _ => False) w wb) := by rw [hwb]; exact (Turn.refl _ w).alloc _
  have HBX : Hid (Box wb b 34 (acells15 a)) := by rw [hwb, hbb]; exact Box.new w _ _
  have HWB := Lib.hid hwb; have HBB := Lib.hid hbb
  have hk0 : (w.alloc (.cells (acells15 a) 34)).cell? ⟨w.heap.size, 0, none⟩ = some (.int .i64 a.kind) := (Box.new w 34 (acells15 a)).cell 0
  rw [hk] at hk0
  have HST : Hid (step15 d a = (sync15 d a.nm).1) := by show _ = _; unfold step15; rw [hk]; rfl
  have HPC : Hid (∀ W, Turn (fun _ => False) w W → Calls Try.prog 23 #[.pointer (some ⟨g, 0, none⟩), sv15 a.nm] W fun e w' => DoesP15 M W F g (sync15 d a.nm).1 (.int .i64 (sync15 d a.nm).2) e w') := fun W ht => HA.out.prog.sync _ (HA.out.mem ht) HA.out.bd
  have HRC : Hid (∀ W W1, Turn (fun _ => False) w W → Turn F W W1 → Calls Try.prog 29 #[.pointer (some ⟨r, 0, none⟩), sv15 a.nm] W1 fun e w' => Does15 W1 r sl (sync15 d a.nm).1 (.int .i64 (sync15 d a.nm).2) e w') := fun W W1 ht t1 => ref_sync15 r sl d _ W1 (HA.out.rd ht t1) HA.out.bd.bd (fun f hf => by have := (HA.out.bd.ok.get hf).2; omega)
  clear h hk hwb hbb
  generalize sync15 d a.nm = p at *
  go_enter Try.func10, Try.ntmps10
  go_wp2_with fail
  rw [← HWB.out, ← HBB.out]
  refine drawn_region (SA15 b a) [] (by kernel_rfl) ?_
  have HTD : Hid (Turn (fun _ => False) w (World.drew wb)) := HTB.out.trans (Turn.refl _ wb).drew (fun _ _ f => f)
  have HBD : Hid (Box (World.drew wb) b 34 (acells15 a)) := HBX.out.turn (S := fun _ => False) (Turn.refl _ wb).drew (fun f => f)
  have hS0 : SA15 b a (World.drew wb) := SA15.of HBD.out
  generalize World.drew wb = wd at *
  refine drawn_take 0 30 (.pointer (some ⟨g, 0, none⟩)) rfl rfl (by kernel_rfl) (by kernel_rfl) (by kernel_rfl) (by kernel_rfl) (fun _ _ _ h => h) (by rfl) (by assumption) (by intro w hSw; obtain ⟨a0, a1, a2, a3, a4⟩ := hSw; go_simp) ?_
  try simp only [List.setIfInBounds_toArray, List.set_cons_zero, List.set_cons_succ]
  refine drawn_take 1 31 (.pointer (some ⟨b, 1, none⟩)) rfl rfl (by kernel_rfl) (by kernel_rfl) (by kernel_rfl) (by kernel_rfl) (fun _ _ _ h => h) (by rfl) (by assumption) (by intro w hSw; obtain ⟨a0, a1, a2, a3, a4⟩ := hSw; go_simp) ?_
  try simp only [List.setIfInBounds_toArray, List.set_cons_zero, List.set_cons_succ]
  refine drawn_take 2 32 (sv15 a.nm) rfl rfl (by kernel_rfl) (by kernel_rfl) (by kernel_rfl) (by kernel_rfl) (fun _ _ _ h => h) (by rfl) (by assumption) (by intro w hSw; obtain ⟨a0, a1, a2, a3, a4⟩ := hSw; go_simp) ?_
  try simp only [List.setIfInBounds_toArray, List.set_cons_zero, List.set_cons_succ]
  refine drawn_take 4 34 (.pointer (some ⟨r, 0, none⟩)) rfl rfl (by kernel_rfl) (by kernel_rfl) (by kernel_rfl) (by kernel_rfl) (fun _ _ _ h => h) (by rfl) (by assumption) (by intro w hSw; obtain ⟨a0, a1, a2, a3, a4⟩ := hSw; go_simp) ?_
  try simp only [List.setIfInBounds_toArray, List.set_cons_zero, List.set_cons_succ]
  refine drawn_take 5 35 (.pointer (some ⟨b, 1, none⟩)) rfl rfl (by kernel_rfl) (by kernel_rfl) (by kernel_rfl) (by kernel_rfl) (fun _ _ _ h => h) (by rfl) (by assumption) (by intro w hSw; obtain ⟨a0, a1, a2, a3, a4⟩ := hSw; go_simp) ?_
  try simp only [List.setIfInBounds_toArray, List.set_cons_zero, List.set_cons_succ]
  refine drawn_take 6 36 (sv15 a.nm) rfl rfl (by kernel_rfl) (by kernel_rfl) (by kernel_rfl) (by kernel_rfl) (fun _ _ _ h => h) (by rfl) (by assumption) (by intro w hSw; obtain ⟨a0, a1, a2, a3, a4⟩ := hSw; go_simp) ?_
  try simp only [List.setIfInBounds_toArray, List.set_cons_zero, List.set_cons_succ]
  refine drawn_any [3] (by kernel_rfl) (by simp) ?_
  refine drawn_cons rfl (fun K hK => ?_) drawn_nil
  go_simp
  refine (HPC.out wd HTD.out).mono ?_
  rintro e w1 ⟨rfl, F1, m1, t1, f1⟩
  have HB1 := Lib.hid (HA.out.box HBD.out (Nat.le_of_eq HBB.out.symm) t1)
  have HM1 := Lib.hid m1; have HT1 := Lib.hid t1; have HF1 := Lib.hid f1
  have hS1 : SA15 b a w1 := SA15.of HB1.out
  clear m1 t1 f1 hS0 HPC
  refine hK.out _ _ _ hS1 ?_
  clear hK K
  try simp only [List.setIfInBounds_toArray, List.set_cons_zero, List.set_cons_succ]
  refine drawn_any [7] (by kernel_rfl) (by simp) ?_
  refine drawn_cons rfl (fun K hK => ?_) drawn_nil
  go_simp
  refine (HRC.out wd w1 HTD.out HT1.out).mono ?_
  rintro e w2 ⟨rfl, sl2, r2, t2, o2⟩
  have HB2 := Lib.hid (HA.out.box2 HB1.out (Nat.le_of_eq HBB.out.symm) t2)
  have HE : Hid (Acted15 M w F g r (step15 d a) (.returned (.bool true)) w2) := HA.out.ends HTD.out HM1.out HT1.out HF1.out r2 t2 o2 HST.out.symm
  have hS2 : SA15 b a w2 := SA15.of HB2.out
  clear r2 t2 o2 hS1 HRC
  refine hK.out _ _ _ hS2 ?_
  clear hK K
  try simp only [List.setIfInBounds_toArray, List.set_cons_zero, List.set_cons_succ]
  refine drawn_take 8 38 (.bool true) rfl rfl (by kernel_rfl) (by kernel_rfl) (by kernel_rfl) (by kernel_rfl) (fun _ _ _ h => h) (by rfl) (by assumption) (by intro w hSw; obtain ⟨a0, a1, a2, a3, a4⟩ := hSw; go_simp) ?_
  try simp only [List.setIfInBounds_toArray, List.set_cons_zero, List.set_cons_succ]
  refine drawn_last1 9 6 (.bool true) rfl rfl (by kernel_rfl) (by kernel_rfl) (by rfl) (by intro w; go_simp) hS2 ?_
  try simp only [List.setIfInBounds_toArray, List.set_cons_zero, List.set_cons_succ]
  clear hS2
  go_wp2
  go_ret
  exact HE.out

set_option maxHeartbeats 16000000 in
theorem act_rename15 (M : World → (Nat → Prop) → Nat → D15 → Prop) (w : World) (F : Nat → Prop) (g r : Nat) (sl : Value) (d : D15) (a : AC15) (h : Act15 M w F g r sl d a) (hk : a.kind = 2) :
    Calls Try.prog 10 #[.pointer (some ⟨g, 0, none⟩), .pointer (some ⟨r, 0, none⟩), .agg (acells15 a)] w fun e w' => Acted15 M w F g r (step15 d a) e w' := by
  have HA := Lib.hid h
  obtain ⟨wb, hwb⟩ : ∃ wb, wb = w.alloc (.cells (acells15 a) 34) := ⟨_, rfl⟩
  obtain ⟨b, hbb⟩ : ∃ b, b = w.heap.size := ⟨_, rfl⟩
  have HTB : Hid (Turn (fun _ => False) w wb) := by rw [hwb]; exact (Turn.refl _ w).alloc _
  have HBX : Hid (Box wb b 34 (acells15 a)) := by rw [hwb, hbb]; exact Box.new w _ _
  have HWB := Lib.hid hwb; have HBB := Lib.hid hbb
  have hk0 : (w.alloc (.cells (acells15 a) 34)).cell? ⟨w.heap.size, 0, none⟩ = some (.int .i64 a.kind) := (Box.new w 34 (acells15 a)).cell 0
  rw [hk] at hk0
  have HST : Hid (step15 d a = (ren15 d a.nm a.to).1) := by show _ = _; unfold step15; rw [hk]; rfl
  have HPC : Hid (∀ W, Turn (fun _ => False) w W → Calls Try.prog 26 #[.pointer (some ⟨g, 0, none⟩), sv15 a.nm, sv15 a.to] W fun e w' => DoesP15 M W F g (ren15 d a.nm a.to).1 (.int .i64 (ren15 d a.nm a.to).2) e w') := fun W ht => HA.out.prog.ren _ _ (HA.out.mem ht) HA.out.bd
  have HRC : Hid (∀ W W1, Turn (fun _ => False) w W → Turn F W W1 → Calls Try.prog 30 #[.pointer (some ⟨r, 0, none⟩), sv15 a.nm, sv15 a.to] W1 fun e w' => Does15 W1 r sl (ren15 d a.nm a.to).1 (.int .i64 (ren15 d a.nm a.to).2) e w') := fun W W1 ht t1 => ref_rename15 r sl d _ _ (by have := HA.out.short.2.1; omega) W1 (HA.out.rd ht t1) HA.out.bd.bd
  clear h hk hwb hbb
  generalize ren15 d a.nm a.to = p at *
  go_enter Try.func10, Try.ntmps10
  go_wp2_with fail
  rw [← HWB.out, ← HBB.out]
  refine drawn_region (SA15 b a) [] (by kernel_rfl) ?_
  have HTD : Hid (Turn (fun _ => False) w (World.drew wb)) := HTB.out.trans (Turn.refl _ wb).drew (fun _ _ f => f)
  have HBD : Hid (Box (World.drew wb) b 34 (acells15 a)) := HBX.out.turn (S := fun _ => False) (Turn.refl _ wb).drew (fun f => f)
  have hS0 : SA15 b a (World.drew wb) := SA15.of HBD.out
  generalize World.drew wb = wd at *
  refine drawn_take 0 41 (.pointer (some ⟨g, 0, none⟩)) rfl rfl (by kernel_rfl) (by kernel_rfl) (by kernel_rfl) (by kernel_rfl) (fun _ _ _ h => h) (by rfl) (by assumption) (by intro w hSw; obtain ⟨a0, a1, a2, a3, a4⟩ := hSw; go_simp) ?_
  try simp only [List.setIfInBounds_toArray, List.set_cons_zero, List.set_cons_succ]
  refine drawn_take 1 42 (.pointer (some ⟨b, 1, none⟩)) rfl rfl (by kernel_rfl) (by kernel_rfl) (by kernel_rfl) (by kernel_rfl) (fun _ _ _ h => h) (by rfl) (by assumption) (by intro w hSw; obtain ⟨a0, a1, a2, a3, a4⟩ := hSw; go_simp) ?_
  try simp only [List.setIfInBounds_toArray, List.set_cons_zero, List.set_cons_succ]
  refine drawn_take 2 43 (sv15 a.nm) rfl rfl (by kernel_rfl) (by kernel_rfl) (by kernel_rfl) (by kernel_rfl) (fun _ _ _ h => h) (by rfl) (by assumption) (by intro w hSw; obtain ⟨a0, a1, a2, a3, a4⟩ := hSw; go_simp) ?_
  try simp only [List.setIfInBounds_toArray, List.set_cons_zero, List.set_cons_succ]
  refine drawn_take 3 44 (.pointer (some ⟨b, 2, none⟩)) rfl rfl (by kernel_rfl) (by kernel_rfl) (by kernel_rfl) (by kernel_rfl) (fun _ _ _ h => h) (by rfl) (by assumption) (by intro w hSw; obtain ⟨a0, a1, a2, a3, a4⟩ := hSw; go_simp) ?_
  try simp only [List.setIfInBounds_toArray, List.set_cons_zero, List.set_cons_succ]
  refine drawn_take 4 45 (sv15 a.to) rfl rfl (by kernel_rfl) (by kernel_rfl) (by kernel_rfl) (by kernel_rfl) (fun _ _ _ h => h) (by rfl) (by assumption) (by intro w hSw; obtain ⟨a0, a1, a2, a3, a4⟩ := hSw; go_simp) ?_
  try simp only [List.setIfInBounds_toArray, List.set_cons_zero, List.set_cons_succ]
  refine drawn_take 6 47 (.pointer (some ⟨r, 0, none⟩)) rfl rfl (by kernel_rfl) (by kernel_rfl) (by kernel_rfl) (by kernel_rfl) (fun _ _ _ h => h) (by rfl) (by assumption) (by intro w hSw; obtain ⟨a0, a1, a2, a3, a4⟩ := hSw; go_simp) ?_
  try simp only [List.setIfInBounds_toArray, List.set_cons_zero, List.set_cons_succ]
  refine drawn_take 7 48 (.pointer (some ⟨b, 1, none⟩)) rfl rfl (by kernel_rfl) (by kernel_rfl) (by kernel_rfl) (by kernel_rfl) (fun _ _ _ h => h) (by rfl) (by assumption) (by intro w hSw; obtain ⟨a0, a1, a2, a3, a4⟩ := hSw; go_simp) ?_
  try simp only [List.setIfInBounds_toArray, List.set_cons_zero, List.set_cons_succ]
  refine drawn_take 8 49 (sv15 a.nm) rfl rfl (by kernel_rfl) (by kernel_rfl) (by kernel_rfl) (by kernel_rfl) (fun _ _ _ h => h) (by rfl) (by assumption) (by intro w hSw; obtain ⟨a0, a1, a2, a3, a4⟩ := hSw; go_simp) ?_
  try simp only [List.setIfInBounds_toArray, List.set_cons_zero, List.set_cons_succ]
  refine drawn_take 9 50 (.pointer (some ⟨b, 2, none⟩)) rfl rfl (by kernel_rfl) (by kernel_rfl) (by kernel_rfl) (by kernel_rfl) (fun _ _ _ h => h) (by rfl) (by assumption) (by intro w hSw; obtain ⟨a0, a1, a2, a3, a4⟩ := hSw; go_simp) ?_
  try simp only [List.setIfInBounds_toArray, List.set_cons_zero, List.set_cons_succ]
  refine drawn_take 10 51 (sv15 a.to) rfl rfl (by kernel_rfl) (by kernel_rfl) (by kernel_rfl) (by kernel_rfl) (fun _ _ _ h => h) (by rfl) (by assumption) (by intro w hSw; obtain ⟨a0, a1, a2, a3, a4⟩ := hSw; go_simp) ?_
  try simp only [List.setIfInBounds_toArray, List.set_cons_zero, List.set_cons_succ]
  refine drawn_any [5] (by kernel_rfl) (by simp) ?_
  refine drawn_cons rfl (fun K hK => ?_) drawn_nil
  go_simp
  refine (HPC.out wd HTD.out).mono ?_
  rintro e w1 ⟨rfl, F1, m1, t1, f1⟩
  have HB1 := Lib.hid (HA.out.box HBD.out (Nat.le_of_eq HBB.out.symm) t1)
  have HM1 := Lib.hid m1; have HT1 := Lib.hid t1; have HF1 := Lib.hid f1
  have hS1 : SA15 b a w1 := SA15.of HB1.out
  clear m1 t1 f1 hS0 HPC
  refine hK.out _ _ _ hS1 ?_
  clear hK K
  try simp only [List.setIfInBounds_toArray, List.set_cons_zero, List.set_cons_succ]
  refine drawn_any [11] (by kernel_rfl) (by simp) ?_
  refine drawn_cons rfl (fun K hK => ?_) drawn_nil
  go_simp
  refine (HRC.out wd w1 HTD.out HT1.out).mono ?_
  rintro e w2 ⟨rfl, sl2, r2, t2, o2⟩
  have HB2 := Lib.hid (HA.out.box2 HB1.out (Nat.le_of_eq HBB.out.symm) t2)
  have HE : Hid (Acted15 M w F g r (step15 d a) (.returned (.bool true)) w2) := HA.out.ends HTD.out HM1.out HT1.out HF1.out r2 t2 o2 HST.out.symm
  have hS2 : SA15 b a w2 := SA15.of HB2.out
  clear r2 t2 o2 hS1 HRC
  refine hK.out _ _ _ hS2 ?_
  clear hK K
  try simp only [List.setIfInBounds_toArray, List.set_cons_zero, List.set_cons_succ]
  refine drawn_take 12 53 (.bool true) rfl rfl (by kernel_rfl) (by kernel_rfl) (by kernel_rfl) (by kernel_rfl) (fun _ _ _ h => h) (by rfl) (by assumption) (by intro w hSw; obtain ⟨a0, a1, a2, a3, a4⟩ := hSw; go_simp) ?_
  try simp only [List.setIfInBounds_toArray, List.set_cons_zero, List.set_cons_succ]
  refine drawn_last1 13 6 (.bool true) rfl rfl (by kernel_rfl) (by kernel_rfl) (by rfl) (by intro w; go_simp) hS2 ?_
  try simp only [List.setIfInBounds_toArray, List.set_cons_zero, List.set_cons_succ]
  clear hS2
  go_wp2
  go_ret
  exact HE.out

set_option maxHeartbeats 16000000 in
theorem act_remove15 (M : World → (Nat → Prop) → Nat → D15 → Prop) (w : World) (F : Nat → Prop) (g r : Nat) (sl : Value) (d : D15) (a : AC15) (h : Act15 M w F g r sl d a) (hk : a.kind = 3) :
    Calls Try.prog 10 #[.pointer (some ⟨g, 0, none⟩), .pointer (some ⟨r, 0, none⟩), .agg (acells15 a)] w fun e w' => Acted15 M w F g r (step15 d a) e w' := by
  have HA := Lib.hid h
  obtain ⟨wb, hwb⟩ : ∃ wb, wb = w.alloc (.cells (acells15 a) 34) := ⟨_, rfl⟩
  obtain ⟨b, hbb⟩ : ∃ b, b = w.heap.size := ⟨_, rfl⟩
  have HTB : Hid (Turn (fun _ => False) w wb) := by rw [hwb]; exact (Turn.refl _ w).alloc _
  have HBX : Hid (Box wb b 34 (acells15 a)) := by rw [hwb, hbb]; exact Box.new w _ _
  have HWB := Lib.hid hwb; have HBB := Lib.hid hbb
  have hk0 : (w.alloc (.cells (acells15 a) 34)).cell? ⟨w.heap.size, 0, none⟩ = some (.int .i64 a.kind) := (Box.new w 34 (acells15 a)).cell 0
  rw [hk] at hk0
  have HST : Hid (step15 d a = (rem15 d a.nm).1) := by show _ = _; unfold step15; rw [hk]; rfl
  have HPC : Hid (∀ W, Turn (fun _ => False) w W → Calls Try.prog 27 #[.pointer (some ⟨g, 0, none⟩), sv15 a.nm] W fun e w' => DoesP15 M W F g (rem15 d a.nm).1 (.int .i64 (rem15 d a.nm).2) e w') := fun W ht => HA.out.prog.rem _ (HA.out.mem ht) HA.out.bd
  have HRC : Hid (∀ W W1, Turn (fun _ => False) w W → Turn F W W1 → Calls Try.prog 31 #[.pointer (some ⟨r, 0, none⟩), sv15 a.nm] W1 fun e w' => Does15 W1 r sl (rem15 d a.nm).1 (.int .i64 (rem15 d a.nm).2) e w') := fun W W1 ht t1 => ref_remove15 r sl d _ W1 (HA.out.rd ht t1) HA.out.bd.bd
  clear h hk hwb hbb
  generalize rem15 d a.nm = p at *
  go_enter Try.func10, Try.ntmps10
  go_wp2_with fail
  rw [← HWB.out, ← HBB.out]
  refine drawn_region (SA15 b a) [] (by kernel_rfl) ?_
  have HTD : Hid (Turn (fun _ => False) w (World.drew wb)) := HTB.out.trans (Turn.refl _ wb).drew (fun _ _ f => f)
  have HBD : Hid (Box (World.drew wb) b 34 (acells15 a)) := HBX.out.turn (S := fun _ => False) (Turn.refl _ wb).drew (fun f => f)
  have hS0 : SA15 b a (World.drew wb) := SA15.of HBD.out
  generalize World.drew wb = wd at *
  refine drawn_take 0 56 (.pointer (some ⟨g, 0, none⟩)) rfl rfl (by kernel_rfl) (by kernel_rfl) (by kernel_rfl) (by kernel_rfl) (fun _ _ _ h => h) (by rfl) (by assumption) (by intro w hSw; obtain ⟨a0, a1, a2, a3, a4⟩ := hSw; go_simp) ?_
  try simp only [List.setIfInBounds_toArray, List.set_cons_zero, List.set_cons_succ]
  refine drawn_take 1 57 (.pointer (some ⟨b, 1, none⟩)) rfl rfl (by kernel_rfl) (by kernel_rfl) (by kernel_rfl) (by kernel_rfl) (fun _ _ _ h => h) (by rfl) (by assumption) (by intro w hSw; obtain ⟨a0, a1, a2, a3, a4⟩ := hSw; go_simp) ?_
  try simp only [List.setIfInBounds_toArray, List.set_cons_zero, List.set_cons_succ]
  refine drawn_take 2 58 (sv15 a.nm) rfl rfl (by kernel_rfl) (by kernel_rfl) (by kernel_rfl) (by kernel_rfl) (fun _ _ _ h => h) (by rfl) (by assumption) (by intro w hSw; obtain ⟨a0, a1, a2, a3, a4⟩ := hSw; go_simp) ?_
  try simp only [List.setIfInBounds_toArray, List.set_cons_zero, List.set_cons_succ]
  refine drawn_take 4 60 (.pointer (some ⟨r, 0, none⟩)) rfl rfl (by kernel_rfl) (by kernel_rfl) (by kernel_rfl) (by kernel_rfl) (fun _ _ _ h => h) (by rfl) (by assumption) (by intro w hSw; obtain ⟨a0, a1, a2, a3, a4⟩ := hSw; go_simp) ?_
  try simp only [List.setIfInBounds_toArray, List.set_cons_zero, List.set_cons_succ]
  refine drawn_take 5 61 (.pointer (some ⟨b, 1, none⟩)) rfl rfl (by kernel_rfl) (by kernel_rfl) (by kernel_rfl) (by kernel_rfl) (fun _ _ _ h => h) (by rfl) (by assumption) (by intro w hSw; obtain ⟨a0, a1, a2, a3, a4⟩ := hSw; go_simp) ?_
  try simp only [List.setIfInBounds_toArray, List.set_cons_zero, List.set_cons_succ]
  refine drawn_take 6 62 (sv15 a.nm) rfl rfl (by kernel_rfl) (by kernel_rfl) (by kernel_rfl) (by kernel_rfl) (fun _ _ _ h => h) (by rfl) (by assumption) (by intro w hSw; obtain ⟨a0, a1, a2, a3, a4⟩ := hSw; go_simp) ?_
  try simp only [List.setIfInBounds_toArray, List.set_cons_zero, List.set_cons_succ]
  refine drawn_any [3] (by kernel_rfl) (by simp) ?_
  refine drawn_cons rfl (fun K hK => ?_) drawn_nil
  go_simp
  refine (HPC.out wd HTD.out).mono ?_
  rintro e w1 ⟨rfl, F1, m1, t1, f1⟩
  have HB1 := Lib.hid (HA.out.box HBD.out (Nat.le_of_eq HBB.out.symm) t1)
  have HM1 := Lib.hid m1; have HT1 := Lib.hid t1; have HF1 := Lib.hid f1
  have hS1 : SA15 b a w1 := SA15.of HB1.out
  clear m1 t1 f1 hS0 HPC
  refine hK.out _ _ _ hS1 ?_
  clear hK K
  try simp only [List.setIfInBounds_toArray, List.set_cons_zero, List.set_cons_succ]
  refine drawn_any [7] (by kernel_rfl) (by simp) ?_
  refine drawn_cons rfl (fun K hK => ?_) drawn_nil
  go_simp
  refine (HRC.out wd w1 HTD.out HT1.out).mono ?_
  rintro e w2 ⟨rfl, sl2, r2, t2, o2⟩
  have HB2 := Lib.hid (HA.out.box2 HB1.out (Nat.le_of_eq HBB.out.symm) t2)
  have HE : Hid (Acted15 M w F g r (step15 d a) (.returned (.bool true)) w2) := HA.out.ends HTD.out HM1.out HT1.out HF1.out r2 t2 o2 HST.out.symm
  have hS2 : SA15 b a w2 := SA15.of HB2.out
  clear r2 t2 o2 hS1 HRC
  refine hK.out _ _ _ hS2 ?_
  clear hK K
  try simp only [List.setIfInBounds_toArray, List.set_cons_zero, List.set_cons_succ]
  refine drawn_take 8 64 (.bool true) rfl rfl (by kernel_rfl) (by kernel_rfl) (by kernel_rfl) (by kernel_rfl) (fun _ _ _ h => h) (by rfl) (by assumption) (by intro w hSw; obtain ⟨a0, a1, a2, a3, a4⟩ := hSw; go_simp) ?_
  try simp only [List.setIfInBounds_toArray, List.set_cons_zero, List.set_cons_succ]
  refine drawn_last1 9 6 (.bool true) rfl rfl (by kernel_rfl) (by kernel_rfl) (by rfl) (by intro w; go_simp) hS2 ?_
  try simp only [List.setIfInBounds_toArray, List.set_cons_zero, List.set_cons_succ]
  clear hS2
  go_wp2
  go_ret
  exact HE.out

set_option maxHeartbeats 16000000 in
theorem act_arm15 (M : World → (Nat → Prop) → Nat → D15 → Prop) (w : World) (F : Nat → Prop) (g r : Nat) (sl : Value) (d : D15) (a : AC15) (h : Act15 M w F g r sl d a) (hk : a.kind = 5) :
    Calls Try.prog 10 #[.pointer (some ⟨g, 0, none⟩), .pointer (some ⟨r, 0, none⟩), .agg (acells15 a)] w fun e w' => Acted15 M w F g r (step15 d a) e w' := by
  have HA := Lib.hid h
  obtain ⟨wb, hwb⟩ : ∃ wb, wb = w.alloc (.cells (acells15 a) 34) := ⟨_, rfl⟩
  obtain ⟨b, hbb⟩ : ∃ b, b = w.heap.size := ⟨_, rfl⟩
  have HTB : Hid (Turn (fun _ => False) w wb) := by rw [hwb]; exact (Turn.refl _ w).alloc _
  have HBX : Hid (Box wb b 34 (acells15 a)) := by rw [hwb, hbb]; exact Box.new w _ _
  have HWB := Lib.hid hwb; have HBB := Lib.hid hbb
  have hk0 : (w.alloc (.cells (acells15 a) 34)).cell? ⟨w.heap.size, 0, none⟩ = some (.int .i64 a.kind) := (Box.new w 34 (acells15 a)).cell 0
  rw [hk] at hk0
  have HST : Hid (step15 d a = (arm15 d a.n).1) := by show _ = _; unfold step15; rw [hk]; rfl
  have HPC : Hid (∀ W, Turn (fun _ => False) w W → Calls Try.prog 22 #[.pointer (some ⟨g, 0, none⟩), .int .i64 a.n] W fun e w' => DoesP15 M W F g (arm15 d a.n).1 (.int .i64 (arm15 d a.n).2) e w') := fun W ht => HA.out.prog.arm _ (HA.out.mem ht) HA.out.bd HA.out.ok.n
  have HRC : Hid (∀ W W1, Turn (fun _ => False) w W → Turn F W W1 → Calls Try.prog 33 #[.pointer (some ⟨r, 0, none⟩), .int .i64 a.n] W1 fun e w' => Does15 W1 r sl (arm15 d a.n).1 (.int .i64 (arm15 d a.n).2) e w') := fun W W1 ht t1 => ref_arm15 r sl d _ W1 (HA.out.rd ht t1)
  clear h hk hwb hbb
  generalize arm15 d a.n = p at *
  go_enter Try.func10, Try.ntmps10
  go_wp2_with fail
  rw [← HWB.out, ← HBB.out]
  refine drawn_region (SA15 b a) [] (by kernel_rfl) ?_
  have HTD : Hid (Turn (fun _ => False) w (World.drew wb)) := HTB.out.trans (Turn.refl _ wb).drew (fun _ _ f => f)
  have HBD : Hid (Box (World.drew wb) b 34 (acells15 a)) := HBX.out.turn (S := fun _ => False) (Turn.refl _ wb).drew (fun f => f)
  have hS0 : SA15 b a (World.drew wb) := SA15.of HBD.out
  generalize World.drew wb = wd at *
  refine drawn_take 0 92 (.pointer (some ⟨g, 0, none⟩)) rfl rfl (by kernel_rfl) (by kernel_rfl) (by kernel_rfl) (by kernel_rfl) (fun _ _ _ h => h) (by rfl) (by assumption) (by intro w hSw; obtain ⟨a0, a1, a2, a3, a4⟩ := hSw; go_simp) ?_
  try simp only [List.setIfInBounds_toArray, List.set_cons_zero, List.set_cons_succ]
  refine drawn_take 1 93 (.pointer (some ⟨b, 4, none⟩)) rfl rfl (by kernel_rfl) (by kernel_rfl) (by kernel_rfl) (by kernel_rfl) (fun _ _ _ h => h) (by rfl) (by assumption) (by intro w hSw; obtain ⟨a0, a1, a2, a3, a4⟩ := hSw; go_simp) ?_
  try simp only [List.setIfInBounds_toArray, List.set_cons_zero, List.set_cons_succ]
  refine drawn_take 2 94 (.int .i64 a.n) rfl rfl (by kernel_rfl) (by kernel_rfl) (by kernel_rfl) (by kernel_rfl) (fun _ _ _ h => h) (by rfl) (by assumption) (by intro w hSw; obtain ⟨a0, a1, a2, a3, a4⟩ := hSw; go_simp) ?_
  try simp only [List.setIfInBounds_toArray, List.set_cons_zero, List.set_cons_succ]
  refine drawn_take 4 96 (.pointer (some ⟨r, 0, none⟩)) rfl rfl (by kernel_rfl) (by kernel_rfl) (by kernel_rfl) (by kernel_rfl) (fun _ _ _ h => h) (by rfl) (by assumption) (by intro w hSw; obtain ⟨a0, a1, a2, a3, a4⟩ := hSw; go_simp) ?_
  try simp only [List.setIfInBounds_toArray, List.set_cons_zero, List.set_cons_succ]
  refine drawn_take 5 97 (.pointer (some ⟨b, 4, none⟩)) rfl rfl (by kernel_rfl) (by kernel_rfl) (by kernel_rfl) (by kernel_rfl) (fun _ _ _ h => h) (by rfl) (by assumption) (by intro w hSw; obtain ⟨a0, a1, a2, a3, a4⟩ := hSw; go_simp) ?_
  try simp only [List.setIfInBounds_toArray, List.set_cons_zero, List.set_cons_succ]
  refine drawn_take 6 98 (.int .i64 a.n) rfl rfl (by kernel_rfl) (by kernel_rfl) (by kernel_rfl) (by kernel_rfl) (fun _ _ _ h => h) (by rfl) (by assumption) (by intro w hSw; obtain ⟨a0, a1, a2, a3, a4⟩ := hSw; go_simp) ?_
  try simp only [List.setIfInBounds_toArray, List.set_cons_zero, List.set_cons_succ]
  refine drawn_any [3] (by kernel_rfl) (by simp) ?_
  refine drawn_cons rfl (fun K hK => ?_) drawn_nil
  go_simp
  refine (HPC.out wd HTD.out).mono ?_
  rintro e w1 ⟨rfl, F1, m1, t1, f1⟩
  have HB1 := Lib.hid (HA.out.box HBD.out (Nat.le_of_eq HBB.out.symm) t1)
  have HM1 := Lib.hid m1; have HT1 := Lib.hid t1; have HF1 := Lib.hid f1
  have hS1 : SA15 b a w1 := SA15.of HB1.out
  clear m1 t1 f1 hS0 HPC
  refine hK.out _ _ _ hS1 ?_
  clear hK K
  try simp only [List.setIfInBounds_toArray, List.set_cons_zero, List.set_cons_succ]
  refine drawn_any [7] (by kernel_rfl) (by simp) ?_
  refine drawn_cons rfl (fun K hK => ?_) drawn_nil
  go_simp
  refine (HRC.out wd w1 HTD.out HT1.out).mono ?_
  rintro e w2 ⟨rfl, sl2, r2, t2, o2⟩
  have HB2 := Lib.hid (HA.out.box2 HB1.out (Nat.le_of_eq HBB.out.symm) t2)
  have HE : Hid (Acted15 M w F g r (step15 d a) (.returned (.bool true)) w2) := HA.out.ends HTD.out HM1.out HT1.out HF1.out r2 t2 o2 HST.out.symm
  have hS2 : SA15 b a w2 := SA15.of HB2.out
  clear r2 t2 o2 hS1 HRC
  refine hK.out _ _ _ hS2 ?_
  clear hK K
  try simp only [List.setIfInBounds_toArray, List.set_cons_zero, List.set_cons_succ]
  refine drawn_take 8 100 (.bool true) rfl rfl (by kernel_rfl) (by kernel_rfl) (by kernel_rfl) (by kernel_rfl) (fun _ _ _ h => h) (by rfl) (by assumption) (by intro w hSw; obtain ⟨a0, a1, a2, a3, a4⟩ := hSw; go_simp) ?_
  try simp only [List.setIfInBounds_toArray, List.set_cons_zero, List.set_cons_succ]
  refine drawn_last1 9 6 (.bool true) rfl rfl (by kernel_rfl) (by kernel_rfl) (by rfl) (by intro w; go_simp) hS2 ?_
  try simp only [List.setIfInBounds_toArray, List.set_cons_zero, List.set_cons_succ]
  clear hS2
  go_wp2
  go_ret
  exact HE.out

end Go.Proofs.Ytclljogbingjiaa

/-
  Stage 15: the other acts: a read, a crash, none; any act.
-/
namespace Go.Proofs.Ytclljogbingjiaa
open Go.RowKit

set_option maxRecDepth 100000

set_option maxHeartbeats 16000000 in
theorem act_reads15 (M : World → (Nat → Prop) → Nat → D15 → Prop) (w : World) (F : Nat → Prop) (g r : Nat) (sl : Value) (d : D15) (a : AC15) (h : Act15 M w F g r sl d a) (hk : a.kind = 4) :
    Calls Try.prog 10 #[.pointer (some ⟨g, 0, none⟩), .pointer (some ⟨r, 0, none⟩), .agg (acells15 a)] w fun e w' => Acted15 M w F g r (step15 d a) e w' := by
  have HA := Lib.hid h
  have HBX : Hid (∀ W, Turn (fun _ => False) (w.alloc (.cells (acells15 a) 34)) W → Box W w.heap.size 34 (acells15 a)) := fun W ht => (Box.new w 34 (acells15 a)).turn ht (fun f => f)
  have HTB : Hid (Turn (fun _ => False) w (w.alloc (.cells (acells15 a) 34))) := (Turn.refl _ w).alloc _
  have hk1 := (HBX.out _ (Turn.refl _ _)).cell 1
  have hk0 : (w.alloc (.cells (acells15 a) 34)).cell? ⟨w.heap.size, 0, none⟩ = some (.int .i64 4) := by rw [← hk]; exact (HBX.out _ (Turn.refl _ _)).cell 0
  have HST : Hid (step15 d a = d) := by show _ = _; unfold step15; rw [hk]; rfl
  have HPC : Hid (∀ W, Turn (fun _ => False) w W → Calls Try.prog 25 #[.pointer (some ⟨g, 0, none⟩), sv15 a.nm] W fun e w' => ReadP15 W (read15 d a.nm) e w') := fun W ht => HA.out.prog.read _ (HA.out.mem ht) HA.out.bd
  have HRC : Hid (∀ W, Turn (fun _ => False) w W → Calls Try.prog 32 #[.pointer (some ⟨r, 0, none⟩), sv15 a.nm] W fun e w' => Read15 W (read15 d a.nm) e w') := fun W ht => ref_read15 r sl d _ W (HA.out.both.doc.later ht) HA.out.bd.bd
  have HLN : Hid ((read15 d a.nm).1.length ≤ 4194304) := by
    show _ ≤ _
    unfold read15
    split
    · exact Nat.zero_le _
    · split
      · exact Nat.zero_le _
      · rename_i f hf
        exact (HA.out.bd.ok.get hf).2
  clear h hk
  generalize read15 d a.nm = p at *
  obtain ⟨l, c⟩ := p
  dsimp only at HLN
  go_enter Try.func10, Try.ntmps10
  go_wp2_with fail
  refine (HPC.out _ HTB.out).mono ?_
  rintro e w1 ⟨v, rfl, hv, t1⟩
  have HT1 := Lib.hid (HTB.out.trans t1 (fun _ _ f => f))
  have hx1 := (HBX.out w1 t1).cell 1
  have HV := Lib.hid hv
  obtain ⟨A, c2, rfl⟩ := hv.shape
  clear t1 hv HPC hk0 hk1
  go_wp2_with fail
  refine (HRC.out _ HT1.out).mono ?_
  rintro e w2 ⟨rfl, t2⟩
  have HT2 := Lib.hid (HT1.out.trans t2 (fun _ _ f => f))
  have hcv := (HV.out.later t2).string
  have HE : Hid (Acted15 M w F g r (step15 d a) (.returned (.bool true)) w2) := by
    show Acted15 ..
    rw [HST.out]
    exact ⟨rfl, F, sl, both_later15 HA.out.prog HA.out.both HT2.out, HT2.out.mono (fun _ _ f => f.elim), fun k hk => .inl hk⟩
  clear t2 HRC hx1
  go_wp2
  go_ret
  exact HE.out

set_option maxHeartbeats 16000000 in
theorem act_crashes15 (M : World → (Nat → Prop) → Nat → D15 → Prop) (w : World) (F : Nat → Prop) (g r : Nat) (sl : Value) (d : D15) (a : AC15) (h : Act15 M w F g r sl d a) (hk : a.kind = 6) :
    Calls Try.prog 10 #[.pointer (some ⟨g, 0, none⟩), .pointer (some ⟨r, 0, none⟩), .agg (acells15 a)] w fun e w' => Acted15 M w F g r (step15 d a) e w' := by
  have HA := Lib.hid h
  have HBX : Hid (∀ W, Turn (fun _ => False) (w.alloc (.cells (acells15 a) 34)) W → Box W w.heap.size 34 (acells15 a)) := fun W ht => (Box.new w 34 (acells15 a)).turn ht (fun f => f)
  have HTB : Hid (Turn (fun _ => False) w (w.alloc (.cells (acells15 a) 34))) := (Turn.refl _ w).alloc _
  have hk4 : (w.alloc (.cells (acells15 a) 34)).cell? ⟨w.heap.size, 4, none⟩ = some (.int .i64 a.n) := (HBX.out _ (Turn.refl _ _)).cell 4
  have hk0 : (w.alloc (.cells (acells15 a) 34)).cell? ⟨w.heap.size, 0, none⟩ = some (.int .i64 6) := by rw [← hk]; exact (HBX.out _ (Turn.refl _ _)).cell 0
  have HST : Hid (step15 d a = crash15 d a.n) := by show _ = _; unfold step15; rw [hk]; rfl
  have HPC : Hid (∀ W, Turn (fun _ => False) w W → Calls Try.prog 24 #[.pointer (some ⟨g, 0, none⟩), .int .i64 a.n] W fun e w' => DoesP15 M W F g (crash15 d a.n) (.tuple #[]) e w') := fun W ht => HA.out.prog.crash _ (HA.out.mem ht) HA.out.bd HA.out.ok.n
  have HRC : Hid (∀ W W1, Turn (fun _ => False) w W → Turn F W W1 → Calls Try.prog 34 #[.pointer (some ⟨r, 0, none⟩), .int .i64 a.n] W1 fun e w' => DoesN15 W1 r (crash15 d a.n) (.tuple #[]) e w') := fun W W1 ht t1 => ref_crash15 r sl d _ HA.out.ok.n W1 (HA.out.rd ht t1) HA.out.bd.bd.len (fun p hp => ⟨(HA.out.bd.ok.files p hp).1, by have := (HA.out.bd.ok.files p hp).2; omega⟩)
  have HBS : Hid (∀ W1, Turn F (w.alloc (.cells (acells15 a) 34)) W1 → Box W1 w.heap.size 34 (acells15 a)) := fun W1 t1 => HA.out.box (HBX.out _ (Turn.refl _ _)) (Nat.le_refl _) t1
  clear h hk
  generalize crash15 d a.n = p at *
  go_enter Try.func10, Try.ntmps10
  go_wp2_with fail
  refine (HPC.out _ HTB.out).mono ?_
  rintro e w1 ⟨rfl, F1, m1, t1, f1⟩
  have hx4 : w1.cell? ⟨w.heap.size, 4, none⟩ = some (.int .i64 a.n) := (HBS.out w1 t1).cell 4
  have HM1 := Lib.hid m1; have HT1 := Lib.hid t1; have HF1 := Lib.hid f1
  clear m1 t1 f1 HPC hk0 hk4
  go_wp2_with fail
  refine (HRC.out _ _ HTB.out HT1.out).mono ?_
  rintro e w2 ⟨rfl, sl2, r2, t2, o2⟩
  have HE : Hid (Acted15 M w F g r (step15 d a) (.returned (.bool true)) w2) := HA.out.ends HTB.out HM1.out HT1.out HF1.out r2 t2 (fun k hk => .inr (o2 k hk)) HST.out.symm
  clear r2 t2 o2 HRC hx4
  go_wp2
  go_ret
  exact HE.out

set_option maxHeartbeats 16000000 in
theorem act_none15 (M : World → (Nat → Prop) → Nat → D15 → Prop) (w : World) (F : Nat → Prop) (g r : Nat) (sl : Value) (d : D15) (a : AC15) (h : Act15 M w F g r sl d a) (h0 : a.kind ≠ 0) (h1 : a.kind ≠ 1) (h2 : a.kind ≠ 2) (h3 : a.kind ≠ 3) (h4 : a.kind ≠ 4) (h5 : a.kind ≠ 5) (h6 : a.kind ≠ 6) :
    Calls Try.prog 10 #[.pointer (some ⟨g, 0, none⟩), .pointer (some ⟨r, 0, none⟩), .agg (acells15 a)] w fun e w' => Acted15 M w F g r (step15 d a) e w' := by
  have HA := Lib.hid h
  have HTB : Hid (Turn (fun _ => False) w (w.alloc (.cells (acells15 a) 34))) := (Turn.refl _ w).alloc _
  have hk0 : (w.alloc (.cells (acells15 a) 34)).cell? ⟨w.heap.size, 0, none⟩ = some (.int .i64 a.kind) := (Box.new w 34 (acells15 a)).cell 0
  have HST : Hid (step15 d a = d) := by show _ = _; unfold step15; rw [if_neg h0, if_neg h1, if_neg h2, if_neg h3, if_neg h5, if_neg h6]
  have HE : Hid (Acted15 M w F g r (step15 d a) (.returned (.bool true)) (w.alloc (.cells (acells15 a) 34))) := by
    show Acted15 ..
    rw [HST.out]
    exact ⟨rfl, F, sl, both_later15 HA.out.prog HA.out.both HTB.out, HTB.out.mono (fun _ _ f => f.elim), fun k hk => .inl hk⟩
  have e0 : (a.kind == 0) = false := by simp [h0]
  have e1 : (a.kind == 1) = false := by simp [h1]
  have e2 : (a.kind == 2) = false := by simp [h2]
  have e3 : (a.kind == 3) = false := by simp [h3]
  have e4 : (a.kind == 4) = false := by simp [h4]
  have e5 : (a.kind == 5) = false := by simp [h5]
  have e6 : (a.kind == 6) = false := by simp [h6]
  clear h h0 h1 h2 h3 h4 h5 h6
  go_enter Try.func10, Try.ntmps10
  go_wp2
  go_ret
  exact HE.out

theorem act_any15 (M : World → (Nat → Prop) → Nat → D15 → Prop) (w : World) (F : Nat → Prop) (g r : Nat) (sl : Value) (d : D15) (a : AC15) (h : Act15 M w F g r sl d a) :
    Calls Try.prog 10 #[.pointer (some ⟨g, 0, none⟩), .pointer (some ⟨r, 0, none⟩), .agg (acells15 a)] w fun e w' => Acted15 M w F g r (step15 d a) e w' := by
  by_cases h0 : a.kind = 0
  · exact act_append15 M w F g r sl d a h h0
  by_cases h1 : a.kind = 1
  · exact act_sync15 M w F g r sl d a h h1
  by_cases h2 : a.kind = 2
  · exact act_rename15 M w F g r sl d a h h2
  by_cases h3 : a.kind = 3
  · exact act_remove15 M w F g r sl d a h h3
  by_cases h4 : a.kind = 4
  · exact act_reads15 M w F g r sl d a h h4
  by_cases h5 : a.kind = 5
  · exact act_arm15 M w F g r sl d a h h5
  by_cases h6 : a.kind = 6
  · exact act_crashes15 M w F g r sl d a h h6
  exact act_none15 M w F g r sl d a h h0 h1 h2 h3 h4 h5 h6

end Go.Proofs.Ytclljogbingjiaa

/-
  Stage 15: what must come at any rate.
-/
namespace Go.Proofs.Ytclljogbingjiaa
open Go.RowKit

set_option maxRecDepth 100000

theorem up_one15 (p : List UInt8 × FB15) : Up ltN [p] := fun i j a b hij ha hb => by
  have h := (List.getElem?_eq_some_iff.1 hb).1
  simp only [List.length_cons, List.length_nil] at h
  omega
/-- A disk with one file. -/
theorem bd_one15 (n b : List UInt8) (s : Nat) (l : Int) (dn : Bool) (h1 : s ≤ b.length) (h2 : b.length ≤ 4194304) (h3 : 0 ≤ l ∧ l ≤ 9223372036854775807) : BdP15 ⟨[(n, (b, s))], l, dn⟩ :=
  ⟨⟨up_one15 _, fun p hp => by obtain rfl := List.mem_singleton.1 hp; exact ⟨h1, h2⟩, h3⟩, by show 1 ≤ 9000; decide⟩
theorem bd_new15 : BdP15 D15.new := ⟨OkD15.new, Nat.zero_le _⟩
/-- Bytes that were laid just now. -/
theorem rd_two15 (w : World) (x y : UInt8) (fr : Nat × Nat) : Rd (w.alloc (.cells #[.int .u8 x.toNat, .int .u8 y.toNat] 5 fr)) (.slice (some ⟨w.heap.size, 0, none⟩) 2 2) [x, y] := by
  refine ⟨_, _, rfl, ⟨Nat.le_refl _, by decide⟩, (fun e => by cases e), fun ad e j b hj => ?_⟩
  cases e
  have e1 : (⟨w.heap.size, 0, none⟩ : Addr).add j = ⟨w.heap.size, j, none⟩ := by unfold Addr.add; split <;> simp_all
  rw [e1, World.cell?_alloc_mark]
  match j, hj with
  | 0, hj => cases hj; rfl
  | 1, hj => cases hj; rfl
theorem app_turn15 {w w1 w2 : World} {F : Nat → Prop} (h : Turn (fun _ => False) w w1) (hF : ∀ k, F k → w.heap.size ≤ k) (t : Turn F w1 w2) : Turn (fun _ => False) w w2 :=
  h.trans t (fun k hk f => by have := hF k f; omega)
theorem foot15 {w w1 : World} {F F1 : Nat → Prop} (hF : ∀ k, F k → w.heap.size ≤ k) (h : Turn (fun _ => False) w w1) (f : ∀ k, F1 k → F k ∨ w1.heap.size ≤ k) : ∀ k, F1 k → w.heap.size ≤ k := fun k hk => by
  rcases f k hk with x | x
  · exact hF k x
  · exact Nat.le_trans h.size x

def dA15 : D15 := ⟨[([97], ([97, 98], 0))], 0, false⟩
def dB15 : D15 := ⟨[([97], ([97, 98], 2))], 0, false⟩
def dC15 : D15 := ⟨[([97], ([97, 98, 99, 100], 2))], 0, false⟩
def dE15 : D15 := ⟨[([97], ([97, 98, 99], 3))], 0, false⟩
theorem do_a15 : app15 D15.new [97] [97, 98] = (dA15, 0) := by kernel_rfl
theorem do_b15 : sync15 dA15 [97] = (dB15, 0) := by kernel_rfl
theorem do_c15 : app15 dB15 [97] [99, 100] = (dC15, 0) := by kernel_rfl
theorem do_e15 : crash15 dC15 1 = dE15 := by kernel_rfl
theorem do_f15 : read15 dE15 [97] = ([97, 98, 99], 0) := by kernel_rfl

set_option maxHeartbeats 4000000 in
theorem alive_any15 (M : World → (Nat → Prop) → Nat → D15 → Prop) (hP : Prog15 M) (w : World) :
    Calls Try.prog 8 #[] w fun e w' => e = .returned (.bool true) ∧ Turn (fun _ => False) w w' := by
  have HP := Lib.hid hP
  clear hP
  have kc := fun (w : World) (C : Array Value) (n c : Nat) => Lib.run_convert_bytes_const (P := Try.prog) w 32 5 C n c Try.underlying32 Try.underlying5
  go_enter Try.func8, Try.ntmps8
  go_wp2_with fail
  refine (HP.out.new _).mono ?_
  rintro e w1 ⟨g, F, rfl, m1, t1, f1⟩
  have HM := Lib.hid (HP.out.turn m1 ((Turn.refl (fun _ => False) w1).alloc (.cells #[.int .u8 97, .int .u8 98] 5 (2, 3))) (fun _ _ f => f))
  have HFR : Hid (Far15 F (.slice (some ⟨w1.heap.size, 0, none⟩) 2 2) [97, 98]) := .inr fun k hk hf => by cases hk; exact Nat.lt_irrefl _ (HP.out.lt m1 _ hf)
  have HT := Lib.hid (t1.trans ((Turn.refl (fun _ => False) w1).alloc (.cells #[.int .u8 97, .int .u8 98] 5 (2, 3))) (fun _ _ f => f))
  have HF := Lib.hid f1
  clear m1 t1 f1
  go_wp2_with fail
  refine (HP.out.app [97] _ [97, 98] HM.out bd_new15 (rd_two15 w1 97 98 (2, 3)) HFR.out (by decide)).mono ?_
  rw [do_a15]
  rintro e w2 ⟨rfl, F2, m2, t2, f2⟩
  have HT2 := Lib.hid (app_turn15 HT.out HF.out t2)
  have HF2 := Lib.hid (foot15 HF.out HT.out f2)
  have HM2 : Hid (M w2 F2 g dA15) := m2
  clear HFR HM m2 t2 f2 HT HF
  go_wp2_with fail
  refine (HP.out.sync [97] HM2.out (bd_one15 _ _ _ _ _ (by decide) (by decide) (by decide))).mono ?_
  rw [do_b15]
  rintro e w3 ⟨rfl, F3, m3, t3, f3⟩
  have HM3 := Lib.hid (HP.out.turn m3 ((Turn.refl (fun _ => False) w3).alloc (.cells #[.int .u8 99, .int .u8 100] 5 (2, 3))) (fun _ _ f => f))
  have HFR : Hid (Far15 F3 (.slice (some ⟨w3.heap.size, 0, none⟩) 2 2) [99, 100]) := .inr fun k hk hf => by cases hk; exact Nat.lt_irrefl _ (HP.out.lt m3 _ hf)
  have HT3 := Lib.hid ((app_turn15 HT2.out HF2.out t3).trans ((Turn.refl (fun _ => False) w3).alloc (.cells #[.int .u8 99, .int .u8 100] 5 (2, 3))) (fun _ _ f => f))
  have HF3 := Lib.hid (foot15 HF2.out HT2.out f3)
  clear HM2 m3 t3 f3 HT2 HF2
  go_wp2_with fail
  refine (HP.out.app [97] _ [99, 100] HM3.out (bd_one15 _ _ _ _ _ (by decide) (by decide) (by decide)) (rd_two15 w3 99 100 (2, 3)) HFR.out (by decide)).mono ?_
  rw [do_c15]
  rintro e w4 ⟨rfl, F4, m4, t4, f4⟩
  have HT4 := Lib.hid (app_turn15 HT3.out HF3.out t4)
  have HF4 := Lib.hid (foot15 HF3.out HT3.out f4)
  have HM4 : Hid (M w4 F4 g dC15) := m4
  clear HFR HM3 m4 t4 f4 HT3 HF3
  go_wp2_with fail
  refine (HP.out.crash 1 HM4.out (bd_one15 _ _ _ _ _ (by decide) (by decide) (by decide)) (by decide)).mono ?_
  rw [do_e15]
  rintro e w5 ⟨rfl, F5, m5, t5, f5⟩
  have HT5 := Lib.hid (app_turn15 HT4.out HF4.out t5)
  have HM5 : Hid (M w5 F5 g dE15) := m5
  clear HM4 m5 t5 f5 HT4 HF4
  go_wp2_with fail
  refine (HP.out.read [97] HM5.out (bd_one15 _ _ _ _ _ (by decide) (by decide) (by decide))).mono ?_
  rw [do_f15]
  rintro e w6 ⟨v, rfl, hv, t6⟩
  have HT6 := Lib.hid (HT5.out.trans t6 (fun _ _ f => f))
  obtain ⟨A, c, rfl⟩ := hv.shape
  have hcv : (convert 32 9 (.slice A 3 c)).run Try.prog w6 = .ok (.string ⟨#[97, 98, 99]⟩) w6 := hv.string
  clear hv t6 HM5 HT5
  go_wp2

  go_ret
  exact ⟨rfl, HT6.out⟩

end Go.Proofs.Ytclljogbingjiaa

/-
  Stage 15: DiskPlays, of any disk of the program (Prog15).
-/
namespace Go.Proofs.Ytclljogbingjiaa
open Go.RowKit

set_option maxRecDepth 100000

theorem cell_lt15 {w : World} {p : Addr} {v : Value} (h : w.cell? p = some v) : p.block < w.heap.size := by
  rcases Nat.lt_or_ge p.block w.heap.size with c | c
  · exact c
  · unfold World.cell? at h
    rw [Array.getElem?_eq_none c] at h
    cases h
theorem far_of15 {w : World} {v : Value} {b : List UInt8} (h : Rd w v b) {S : Nat → Prop} (hS : ∀ k, S k → w.heap.size ≤ k) : Far15 S v b := by
  cases b with
  | nil => exact .inl rfl
  | cons x r =>
    refine .inr fun k hk hs => ?_
    obtain ⟨A, c, rfl, -, -, h3⟩ := h
    cases A with
    | none => cases hk
    | some ad =>
      cases hk
      have h1 := cell_lt15 (h3 ad rfl 0 x rfl)
      rw [add_block] at h1
      have := hS _ hs
      omega
theorem AcOk15.later {w w' : World} {a : AC15} (h : AcOk15 w a) (ht : Turn (fun _ => False) w w') : AcOk15 w' a := ⟨h.kind, h.n, h.nm, h.to, h.b.later ht, h.bl⟩
theorem n_le15 {n : Int} (h : (Lit.int .i64 n).wf = true) : n ≤ 9223372036854775807 := by
  have hK : -9223372036854775808 ≤ n ∧ n ≤ 9223372036854775807 := by simpa [Lit.wf, IntKind.min, IntKind.max, IntKind.signed, IntKind.bits] using h
  exact hK.2
theorem light_short15 {l : List AC15} (h : light15 l = true) : l.length ≤ 100 ∧ ∀ a ∈ l, short15 a = true := by
  unfold light15 at h
  rw [Bool.and_eq_true, List.all_eq_true] at h
  exact ⟨of_decide_eq_true h.1, h.2⟩
theorem short_of15 {a : AC15} (h : short15 a = true) : a.nm.length ≤ 60 ∧ a.to.length ≤ 60 ∧ a.b.length ≤ 100 := by
  unfold short15 at h
  rw [Bool.and_eq_true, Bool.and_eq_true] at h
  exact ⟨of_decide_eq_true h.1.1, of_decide_eq_true h.1.2, of_decide_eq_true h.2⟩

/-- Ahead of act number i. -/
structure Play15 (M : World → (Nat → Prop) → Nat → D15 → Prop) (w0 w : World) (g r : Nat) (i : Nat) (F : Nat → Prop) (sl : Value) (d : D15) : Prop where
  both : Both15 M w F g r sl d
  ok : OkD15 d
  len : d.l.length ≤ i
  turn : Turn (fun _ => False) w0 w
  foot : ∀ k, F k → w0.heap.size ≤ k
  ref : w0.heap.size ≤ r
def Plays15 (M : World → (Nat → Prop) → Nat → D15 → Prop) (w0 w : World) (g r : Nat) (i : Nat) : Prop := ∃ F sl d, Play15 M w0 w g r i F sl d
section
variable {M : World → (Nat → Prop) → Nat → D15 → Prop} {w0 w : World} {g r i : Nat} {F : Nat → Prop} {sl : Value} {d : D15}
theorem Play15.later (hP : Prog15 M) (h : Play15 M w0 w g r i F sl d) {W : World} (ht : Turn (fun _ => False) w W) : Play15 M w0 W g r i F sl d :=
  ⟨both_later15 hP h.both ht, h.ok, h.len, h.turn.trans ht (fun _ _ f => f), h.foot, h.ref⟩
theorem Play15.bd (h : Play15 M w0 w g r i F sl d) (hi : i ≤ 9000) : BdP15 d := ⟨h.ok, Nat.le_trans h.len hi⟩
theorem Play15.act (hP : Prog15 M) (h : Play15 M w0 w g r i F sl d) (hi : i ≤ 9000) {a : AC15} (ho : AcOk15 w0 a) (hs : short15 a = true) : Act15 M w F g r sl d a :=
  ⟨hP, h.both, h.bd hi, ho.later h.turn, far_of15 ho.b (fun k hk => hk.elim (h.foot k) (fun e => e ▸ h.ref)), short_of15 hs⟩
theorem Play15.next (h : Play15 M w0 w g r i F sl d) {a : AC15} (ho : AcOk15 w0 a) {e : Ending} {w' : World} (ha : Acted15 M w F g r (step15 d a) e w') : e = .returned (.bool true) ∧ ∃ F' sl', Play15 M w0 w' g r (i + 1) F' sl' (step15 d a) := by
  obtain ⟨h1, F', sl', hb, ht, hf⟩ := ha
  refine ⟨h1, F', sl', hb, h.ok.step (n_le15 ho.n), Nat.le_trans (step_len15 d a) (Nat.succ_le_succ h.len), h.turn.trans ht (fun k hk x => ?_), fun k hk => ?_, h.ref⟩
  · rcases x with x | x
    · have := h.foot k x; omega
    · have := h.ref; omega
  · rcases hf k hk with x | x
    · exact h.foot k x
    · exact Nat.le_trans h.turn.size x
end

set_option maxHeartbeats 40000000 in
theorem plays_any15 (M : World → (Nat → Prop) → Nat → D15 → Prop) (hP : Prog15 M) (v : Value) (l : List AC15) (w : World) (hv : RdE EA15 w v l) (hl : l.length ≤ maxLen) (ho : ∀ a ∈ l, AcOk15 w a) :
    Calls Try.prog 3 #[v] w fun e w' => e = .returned (.bool true) ∧ Turn (fun _ => False) w w' := by
  have HP := Lib.hid hP; have HV := Lib.hid hv; have HO := Lib.hid ho
  have HL := Lib.hid (light_any15 v l w hv hl (fun a ha => ⟨(ho a ha).nm, (ho a ha).to, (ho a ha).bl⟩))
  have HAL : Hid (∀ W, Calls Try.prog 8 #[] W fun e w' => e = .returned (.bool true) ∧ Turn (fun _ => False) W w') := fun W => alive_any15 M hP W
  obtain ⟨A, c, rfl⟩ := hv.shape
  clear hP hv hl ho
  go_enter Try.func3, Try.ntmps3
  go_wp2_with fail
  refine HL.out.mono ?_
  rintro e w1 ⟨rfl, hw1⟩
  subst hw1
  clear HL
  cases hli : light15 l with
  | false =>
    clear hli
    have HTX : Hid (Turn (fun _ => False) w1 w1) := Turn.refl _ _
    go_wp2_with fail
    refine (HAL.out _).mono ?_
    rintro e wz ⟨rfl, tz⟩
    have HTZ := Lib.hid (HTX.out.trans tz (fun _ _ f => f))
    clear tz
    go_wp2
    go_ret
    exact ⟨rfl, HTZ.out⟩
  | true =>
    obtain ⟨hl1, hl2⟩ := light_short15 hli
    have HSH := Lib.hid hl2
    clear hli hl2
    go_wp2_with fail
    refine (HP.out.new _).mono ?_
    rintro e w2 ⟨g, F, rfl, m2, t2, f2⟩
    obtain ⟨w3, hw3⟩ : ∃ w3, w3 = w2.alloc (.cells #[.slice none 0 0, .int .i64 0, .bool false] 30) := ⟨_, rfl⟩
    obtain ⟨r, hr⟩ : ∃ r, r = w2.heap.size := ⟨_, rfl⟩
    have HPL : Hid (Plays15 M w1 w3 g r 0) := by
      refine ⟨F, .slice none 0 0, D15.new, ⟨⟨?_, ⟨?_, RdE.nil _, (by simp [Value.ownBlock]), (fun k e => by simp [Value.ownBlock] at e)⟩, ?_, (fun k e => by simp [Value.ownBlock] at e)⟩, OkD15.new, Nat.le_refl _, ?_, f2, ?_⟩⟩
      · rw [hw3]
        exact HP.out.turn m2 ((Turn.refl (fun _ => False) w2).alloc _) (fun _ _ f => f)
      · rw [hw3, hr]
        exact Box.new w2 _ _
      · intro hf
        have := HP.out.lt m2 r hf
        omega
      · rw [hw3]
        exact t2.alloc _
      · rw [hr]
        exact t2.size
    have HW3 := Lib.hid hw3; have HR := Lib.hid hr
    clear m2 t2 f2 hw3 hr
    go_wp2_with fail
    rw [← HW3.out, ← HR.out]
    clear HW3 HR
    go_loopw [5] (fun x5 wr => ∃ i : Nat, x5 = .int .i64 (i : Int) ∧ i ≤ l.length ∧ Plays15 M w1 wr g r i) (fun x5 _ => l.length - (intOf x5).toNat)
    case atStart => exact ⟨0, rfl, Nat.zero_le _, HPL.out⟩
    case round =>
      obtain ⟨i, rfl, hi, hpl⟩ := hrel
      obtain ⟨F, sl, d, hp⟩ := hpl
      have HPY := Lib.hid hp
      clear hp HPL
      by_cases hlt : i < l.length
      · obtain ⟨a, ha⟩ : ∃ a, l[i]? = some a := ⟨_, List.getElem?_eq_getElem hlt⟩
        obtain ⟨ad, rfl, hc⟩ := act_at15 HV.out ha
        have HC := Lib.hid hc
        have hm := List.mem_of_getElem? ha
        have HOA := Lib.hid (HO.out a hm)
        have hil : (i : Int) < l.length := by omega
        have HACT : Hid (∀ W, Turn (fun _ => False) wr W → Calls Try.prog 10 #[.pointer (some ⟨g, 0, none⟩), .pointer (some ⟨r, 0, none⟩), .agg (acells15 a)] W fun e w' => Acted15 M W F g r (step15 d a) e w') := fun W ht => act_any15 M W F g r sl d a ((HPY.out.later HP.out ht).act HP.out (by omega) HOA.out (HSH.out a hm))
        have HNX : Hid (∀ W e w', Turn (fun _ => False) wr W → Acted15 M W F g r (step15 d a) e w' → e = .returned (.bool true) ∧ ∃ F' sl', Play15 M w1 w' g r (i + 1) F' sl' (step15 d a)) := fun W e w' ht h => (HPY.out.later HP.out ht).next HOA.out h
        have HTW : Hid (Turn (fun _ => False) w1 wr) := HPY.out.turn
        clear hc hm ha
        go_wp2_with fail
        refine drawn_region (fun W => Turn (fun _ => False) w1 W) [] (by kernel_rfl) ?_
        have HD0 : Hid (Turn (fun _ => False) wr (World.drew wr)) := (Turn.refl _ wr).drew
        have hS0 : Turn (fun _ => False) w1 (World.drew wr) := HTW.out.trans HD0.out (fun _ _ f => f)
        generalize World.drew wr = wd at *
        refine drawn_take 0 21 (.pointer (some ⟨g, 0, none⟩)) rfl rfl (by kernel_rfl) (by kernel_rfl) (by kernel_rfl) (by kernel_rfl) (fun _ _ _ h => h) (by rfl) (by assumption) (by intro w hSw; obtain hS1 := hSw; go_simp) ?_
        try simp only [List.setIfInBounds_toArray, List.set_cons_zero, List.set_cons_succ]
        refine drawn_take 1 22 (.pointer (some ⟨r, 0, none⟩)) rfl rfl (by kernel_rfl) (by kernel_rfl) (by kernel_rfl) (by kernel_rfl) (fun _ _ _ h => h) (by rfl) (by assumption) (by intro w hSw; obtain hS1 := hSw; go_simp) ?_
        try simp only [List.setIfInBounds_toArray, List.set_cons_zero, List.set_cons_succ]
        refine drawn_take 2 23 (.slice (some ad) l.length c) rfl rfl (by kernel_rfl) (by kernel_rfl) (by kernel_rfl) (by kernel_rfl) (fun _ _ _ h => h) (by rfl) (by assumption) (by intro w hSw; obtain hS1 := hSw; go_simp) ?_
        try simp only [List.setIfInBounds_toArray, List.set_cons_zero, List.set_cons_succ]
        refine drawn_take 3 24 (.int .i64 (i : Int)) rfl rfl (by kernel_rfl) (by kernel_rfl) (by kernel_rfl) (by kernel_rfl) (fun _ _ _ h => h) (by rfl) (by assumption) (by intro w hSw; obtain hS1 := hSw; go_simp) ?_
        try simp only [List.setIfInBounds_toArray, List.set_cons_zero, List.set_cons_succ]
        refine drawn_take 4 25 (.pointer (some (ad.add (i * 5)))) rfl rfl (by kernel_rfl) (by kernel_rfl) (by kernel_rfl) (by kernel_rfl) (fun _ _ _ h => h) (by rfl) (by assumption) (by intro w hSw; obtain hS1 := hSw; go_simp) ?_
        try simp only [List.setIfInBounds_toArray, List.set_cons_zero, List.set_cons_succ]
        refine drawn_take 5 26 (.agg (acells15 a)) rfl rfl (by kernel_rfl) (by kernel_rfl) (by kernel_rfl) (by kernel_rfl) (fun _ _ _ h => h) (by rfl) (by assumption) (by intro w hSw; obtain ⟨a0, a1, a2, a3, a4⟩ := HC.out w hSw; clear hSw; go_simp) ?_
        try simp only [List.setIfInBounds_toArray, List.set_cons_zero, List.set_cons_succ]
        refine drawn_any [6] (by kernel_rfl) (by simp) ?_
        refine drawn_cons rfl (fun K hK => ?_) drawn_nil
        go_simp
        refine (HACT.out wd HD0.out).mono ?_
        intro e w4 hac
        obtain ⟨rfl, F4, sl4, hp4⟩ := HNX.out _ _ _ HD0.out hac
        have HP4 := Lib.hid hp4
        have hS4 : Turn (fun _ => False) w1 w4 := hp4.turn
        have HBD : Hid (BdP15 (step15 d a)) := hp4.bd (by omega)
        clear hac hp4 hS0 HACT HNX HD0
        generalize step15 d a = d4 at *
        have HDN : Hid (∀ W, Turn (fun _ => False) w4 W → Calls Try.prog 11 #[.pointer (some ⟨g, 0, none⟩)] W fun e w' => SaysP15 W (.bool d4.down) e w') := fun W ht => HP.out.down (HP4.out.later HP.out ht).both.prog HBD.out
        have HBY : Hid (∀ W, Turn (fun _ => False) w4 W → Calls Try.prog 12 #[.pointer (some ⟨g, 0, none⟩)] W fun e w' => SaysP15 W (.int .i64 (bytes15 d4.l)) e w') := fun W ht => HP.out.bytes (HP4.out.later HP.out ht).both.prog HBD.out
        have HHA : Hid (∀ W, Turn (fun _ => False) w4 W → Calls Try.prog 14 #[.pointer (some ⟨g, 0, none⟩), sv15 a.nm] W fun e w' => SaysP15 W (.bool (hasK ltN d4.l a.nm)) e w') := fun W ht => HP.out.has _ (HP4.out.later HP.out ht).both.prog HBD.out
        have HLO : Hid (∀ W, Turn (fun _ => False) w4 W → Calls Try.prog 16 #[.pointer (some ⟨g, 0, none⟩), sv15 a.nm] W fun e w' => SaysP15 W (.int .i64 (loose15 d4 a.nm)) e w') := fun W ht => HP.out.loose _ (HP4.out.later HP.out ht).both.prog HBD.out
        have HNA : Hid (∀ W, Turn (fun _ => False) w4 W → Calls Try.prog 19 #[.pointer (some ⟨g, 0, none⟩)] W fun e w' => Names15 W (d4.l.map (·.1)) e w') := fun W ht => HP.out.names (HP4.out.later HP.out ht).both.prog HBD.out
        have HRB : Hid (∀ W, Turn (fun _ => False) w4 W → Calls Try.prog 13 #[.pointer (some ⟨r, 0, none⟩)] W fun e w' => SaysP15 W (.int .i64 (bytes15 d4.l)) e w') := fun W ht => ref_bytes15 r sl4 d4 W (HP4.out.later HP.out ht).both.doc HBD.out.bd.len (fun p hp => by have := (HBD.out.ok.files p hp).2; omega)
        have HRH : Hid (∀ W, Turn (fun _ => False) w4 W → Calls Try.prog 15 #[.pointer (some ⟨r, 0, none⟩), sv15 a.nm] W fun e w' => SaysP15 W (.bool (hasK ltN d4.l a.nm)) e w') := fun W ht => ref_has15 r sl4 d4 _ W (HP4.out.later HP.out ht).both.doc HBD.out.bd.len
        have HRL : Hid (∀ W, Turn (fun _ => False) w4 W → Calls Try.prog 17 #[.pointer (some ⟨r, 0, none⟩), sv15 a.nm] W fun e w' => SaysP15 W (.int .i64 (loose15 d4 a.nm)) e w') := fun W ht => ref_loose15 r sl4 d4 _ W (HP4.out.later HP.out ht).both.doc HBD.out.bd.len (fun f hf => ⟨(HBD.out.ok.get hf).1, by have := (HBD.out.ok.get hf).2; omega⟩)
        have HRN : Hid (∀ W, Turn (fun _ => False) w4 W → Calls Try.prog 20 #[.pointer (some ⟨r, 0, none⟩)] W fun e w' => Names15 W (d4.l.map (·.1)) e w') := fun W ht => ref_names15 r sl4 d4 W (HP4.out.later HP.out ht).both.doc HBD.out.bd.len
        have HIS : Hid (∀ W, Turn (fun _ => False) w4 W → W.cell? ⟨r, 2, none⟩ = some (.bool d4.down)) := fun W ht => (HP4.out.later HP.out ht).both.doc.box.cell 2
        have HNL : Hid ((d4.l.map (·.1)).length ≤ 1000000) := by show _ ≤ _; rw [List.length_map]; have := HBD.out.len; omega
        have HT4 : Hid (Turn (fun _ => False) w4 w4) := Turn.refl _ _
        generalize d4.down = dn at *
        generalize bytes15 d4.l = nb at *
        generalize hasK ltN d4.l a.nm = hh at *
        generalize loose15 d4 a.nm = lo at *
        generalize d4.l.map (·.1) = nl at *
        refine hK.out _ _ _ hS4 ?_
        clear hK K
        try simp only [List.setIfInBounds_toArray, List.set_cons_zero, List.set_cons_succ]
        refine drawn_take 7 28 (.bool false) rfl rfl (by kernel_rfl) (by kernel_rfl) (by kernel_rfl) (by kernel_rfl) (fun _ _ _ h => h) (by rfl) (by assumption) (by intro w hSw; obtain hS1 := hSw; go_simp) ?_
        try simp only [List.setIfInBounds_toArray, List.set_cons_zero, List.set_cons_succ]
        refine drawn_take 8 29 (.bool false) rfl rfl (by kernel_rfl) (by kernel_rfl) (by kernel_rfl) (by kernel_rfl) (fun _ _ _ h => h) (by rfl) (by assumption) (by intro w hSw; obtain hS1 := hSw; go_simp) ?_
        try simp only [List.setIfInBounds_toArray, List.set_cons_zero, List.set_cons_succ]
        refine drawn_take 9 30 (.pointer (some ⟨g, 0, none⟩)) rfl rfl (by kernel_rfl) (by kernel_rfl) (by kernel_rfl) (by kernel_rfl) (fun _ _ _ h => h) (by rfl) (by assumption) (by intro w hSw; obtain hS1 := hSw; go_simp) ?_
        try simp only [List.setIfInBounds_toArray, List.set_cons_zero, List.set_cons_succ]
        refine drawn_take 11 32 (.pointer (some ⟨r, 0, none⟩)) rfl rfl (by kernel_rfl) (by kernel_rfl) (by kernel_rfl) (by kernel_rfl) (fun _ _ _ h => h) (by rfl) (by assumption) (by intro w hSw; obtain hS1 := hSw; go_simp) ?_
        try simp only [List.setIfInBounds_toArray, List.set_cons_zero, List.set_cons_succ]
        refine drawn_take 12 33 (.pointer (some ⟨r, 0, none⟩)) rfl rfl (by kernel_rfl) (by kernel_rfl) (by kernel_rfl) (by kernel_rfl) (fun _ _ _ h => h) (by rfl) (by assumption) (by intro w hSw; obtain hS1 := hSw; go_simp) ?_
        try simp only [List.setIfInBounds_toArray, List.set_cons_zero, List.set_cons_succ]
        refine drawn_take 13 34 (.pointer (some ⟨r, 2, none⟩)) rfl rfl (by kernel_rfl) (by kernel_rfl) (by kernel_rfl) (by kernel_rfl) (fun _ _ _ h => h) (by rfl) (by assumption) (by intro w hSw; obtain hS1 := hSw; go_simp) ?_
        try simp only [List.setIfInBounds_toArray, List.set_cons_zero, List.set_cons_succ]
        refine drawn_any [10, 14] (by kernel_rfl) (by simp) ?_
        refine drawn_cons rfl (fun K hK => ?_) (drawn_cons rfl (fun K hK => ?_) drawn_nil)
        · go_simp
          refine (HDN.out _ HT4.out).mono ?_
          rintro e w6 ⟨rfl, t6⟩
          have hS6 := hS4.trans t6 (fun _ _ f => f)
          have HT6 := Lib.hid (HT4.out.trans t6 (fun _ _ f => f))
          have hx := HIS.out w6 HT6.out
          clear hS4 t6 HT4 HDN
          refine hK.out _ _ _ hS6 ?_
          clear hK K
          try simp only [List.setIfInBounds_toArray, List.set_cons_zero, List.set_cons_succ]
          refine drawn_any [14] (by kernel_rfl) (by simp) ?_
          refine drawn_cons rfl (fun K hK => ?_) drawn_nil
          go_simp
          refine hK.out _ _ _ hS6 ?_
          clear hK K hx
          try simp only [List.setIfInBounds_toArray, List.set_cons_zero, List.set_cons_succ]
          refine drawn_take 15 36 (.bool false) rfl rfl (by kernel_rfl) (by kernel_rfl) (by kernel_rfl) (by kernel_rfl) (fun _ _ _ h => h) (by rfl) (by assumption) (by intro w hSw; obtain hS1 := hSw; go_simp) ?_
          try simp only [List.setIfInBounds_toArray, List.set_cons_zero, List.set_cons_succ]
          refine drawn_take 16 37 (.bool false) rfl rfl (by kernel_rfl) (by kernel_rfl) (by kernel_rfl) (by kernel_rfl) (fun _ _ _ h => h) (by rfl) (by assumption) (by intro w hSw; obtain hS1 := hSw; go_simp) ?_
          try simp only [List.setIfInBounds_toArray, List.set_cons_zero, List.set_cons_succ]
          refine drawn_take 17 38 (.bool false) rfl rfl (by kernel_rfl) (by kernel_rfl) (by kernel_rfl) (by kernel_rfl) (fun _ _ _ h => h) (by rfl) (by assumption) (by intro w hSw; obtain hS1 := hSw; go_simp) ?_
          try simp only [List.setIfInBounds_toArray, List.set_cons_zero, List.set_cons_succ]
          refine drawn_take 18 39 (.pointer (some ⟨g, 0, none⟩)) rfl rfl (by kernel_rfl) (by kernel_rfl) (by kernel_rfl) (by kernel_rfl) (fun _ _ _ h => h) (by rfl) (by assumption) (by intro w hSw; obtain hS1 := hSw; go_simp) ?_
          try simp only [List.setIfInBounds_toArray, List.set_cons_zero, List.set_cons_succ]
          refine drawn_take 20 41 (.pointer (some ⟨r, 0, none⟩)) rfl rfl (by kernel_rfl) (by kernel_rfl) (by kernel_rfl) (by kernel_rfl) (fun _ _ _ h => h) (by rfl) (by assumption) (by intro w hSw; obtain hS1 := hSw; go_simp) ?_
          try simp only [List.setIfInBounds_toArray, List.set_cons_zero, List.set_cons_succ]
          refine drawn_any [19] (by kernel_rfl) (by simp) ?_
          refine drawn_cons rfl (fun K hK => ?_) drawn_nil
          go_simp
          refine (HBY.out _ HT6.out).mono ?_
          rintro e w7 ⟨rfl, t7⟩
          have hS7 := hS6.trans t7 (fun _ _ f => f)
          have HT7 := Lib.hid (HT6.out.trans t7 (fun _ _ f => f))
          clear hS6 t7 HT6 HBY
          refine hK.out _ _ _ hS7 ?_
          clear hK K
          try simp only [List.setIfInBounds_toArray, List.set_cons_zero, List.set_cons_succ]
          refine drawn_any [21] (by kernel_rfl) (by simp) ?_
          refine drawn_cons rfl (fun K hK => ?_) drawn_nil
          go_simp
          refine (HRB.out _ HT7.out).mono ?_
          rintro e w8 ⟨rfl, t8⟩
          have hS8 := hS7.trans t8 (fun _ _ f => f)
          have HT8 := Lib.hid (HT7.out.trans t8 (fun _ _ f => f))
          clear hS7 t8 HT7 HRB
          refine hK.out _ _ _ hS8 ?_
          clear hK K
          try simp only [List.setIfInBounds_toArray, List.set_cons_zero, List.set_cons_succ]
          refine drawn_take 22 43 (.bool false) rfl rfl (by kernel_rfl) (by kernel_rfl) (by kernel_rfl) (by kernel_rfl) (fun _ _ _ h => h) (by rfl) (by assumption) (by intro w hSw; obtain hS1 := hSw; go_simp) ?_
          try simp only [List.setIfInBounds_toArray, List.set_cons_zero, List.set_cons_succ]
          refine drawn_take 23 44 (.bool false) rfl rfl (by kernel_rfl) (by kernel_rfl) (by kernel_rfl) (by kernel_rfl) (fun _ _ _ h => h) (by rfl) (by assumption) (by intro w hSw; obtain hS1 := hSw; go_simp) ?_
          try simp only [List.setIfInBounds_toArray, List.set_cons_zero, List.set_cons_succ]
          refine drawn_take 24 45 (.bool false) rfl rfl (by kernel_rfl) (by kernel_rfl) (by kernel_rfl) (by kernel_rfl) (fun _ _ _ h => h) (by rfl) (by assumption) (by intro w hSw; obtain hS1 := hSw; go_simp) ?_
          try simp only [List.setIfInBounds_toArray, List.set_cons_zero, List.set_cons_succ]
          refine drawn_take 25 46 (.pointer (some ⟨g, 0, none⟩)) rfl rfl (by kernel_rfl) (by kernel_rfl) (by kernel_rfl) (by kernel_rfl) (fun _ _ _ h => h) (by rfl) (by assumption) (by intro w hSw; obtain hS1 := hSw; go_simp) ?_
          try simp only [List.setIfInBounds_toArray, List.set_cons_zero, List.set_cons_succ]
          refine drawn_take 26 47 (.slice (some ad) l.length c) rfl rfl (by kernel_rfl) (by kernel_rfl) (by kernel_rfl) (by kernel_rfl) (fun _ _ _ h => h) (by rfl) (by assumption) (by intro w hSw; obtain hS1 := hSw; go_simp) ?_
          try simp only [List.setIfInBounds_toArray, List.set_cons_zero, List.set_cons_succ]
          refine drawn_take 27 48 (.int .i64 (i : Int)) rfl rfl (by kernel_rfl) (by kernel_rfl) (by kernel_rfl) (by kernel_rfl) (fun _ _ _ h => h) (by rfl) (by assumption) (by intro w hSw; obtain hS1 := hSw; go_simp) ?_
          try simp only [List.setIfInBounds_toArray, List.set_cons_zero, List.set_cons_succ]
          refine drawn_take 28 49 (.pointer (some (ad.add (i * 5)))) rfl rfl (by kernel_rfl) (by kernel_rfl) (by kernel_rfl) (by kernel_rfl) (fun _ _ _ h => h) (by rfl) (by assumption) (by intro w hSw; obtain hS1 := hSw; go_simp) ?_
          try simp only [List.setIfInBounds_toArray, List.set_cons_zero, List.set_cons_succ]
          refine drawn_take 29 50 (.pointer (some ⟨(ad.add (i * 5)).block, (ad.add (i * 5)).off + 1, none⟩)) rfl rfl (by kernel_rfl) (by kernel_rfl) (by kernel_rfl) (by kernel_rfl) (fun _ _ _ h => h) (by rfl) (by assumption) (by intro w hSw; obtain hS1 := hSw; go_simp) ?_
          try simp only [List.setIfInBounds_toArray, List.set_cons_zero, List.set_cons_succ]
          refine drawn_take 30 51 (sv15 a.nm) rfl rfl (by kernel_rfl) (by kernel_rfl) (by kernel_rfl) (by kernel_rfl) (fun _ _ _ h => h) (by rfl) (by assumption) (by intro w hSw; obtain ⟨a0, a1, a2, a3, a4⟩ := HC.out w hSw; clear hSw; go_simp) ?_
          try simp only [List.setIfInBounds_toArray, List.set_cons_zero, List.set_cons_succ]
          refine drawn_take 32 53 (.pointer (some ⟨r, 0, none⟩)) rfl rfl (by kernel_rfl) (by kernel_rfl) (by kernel_rfl) (by kernel_rfl) (fun _ _ _ h => h) (by rfl) (by assumption) (by intro w hSw; obtain hS1 := hSw; go_simp) ?_
          try simp only [List.setIfInBounds_toArray, List.set_cons_zero, List.set_cons_succ]
          refine drawn_take 33 54 (.slice (some ad) l.length c) rfl rfl (by kernel_rfl) (by kernel_rfl) (by kernel_rfl) (by kernel_rfl) (fun _ _ _ h => h) (by rfl) (by assumption) (by intro w hSw; obtain hS1 := hSw; go_simp) ?_
          try simp only [List.setIfInBounds_toArray, List.set_cons_zero, List.set_cons_succ]
          refine drawn_take 34 55 (.int .i64 (i : Int)) rfl rfl (by kernel_rfl) (by kernel_rfl) (by kernel_rfl) (by kernel_rfl) (fun _ _ _ h => h) (by rfl) (by assumption) (by intro w hSw; obtain hS1 := hSw; go_simp) ?_
          try simp only [List.setIfInBounds_toArray, List.set_cons_zero, List.set_cons_succ]
          refine drawn_take 35 56 (.pointer (some (ad.add (i * 5)))) rfl rfl (by kernel_rfl) (by kernel_rfl) (by kernel_rfl) (by kernel_rfl) (fun _ _ _ h => h) (by rfl) (by assumption) (by intro w hSw; obtain hS1 := hSw; go_simp) ?_
          try simp only [List.setIfInBounds_toArray, List.set_cons_zero, List.set_cons_succ]
          refine drawn_take 36 57 (.pointer (some ⟨(ad.add (i * 5)).block, (ad.add (i * 5)).off + 1, none⟩)) rfl rfl (by kernel_rfl) (by kernel_rfl) (by kernel_rfl) (by kernel_rfl) (fun _ _ _ h => h) (by rfl) (by assumption) (by intro w hSw; obtain hS1 := hSw; go_simp) ?_
          try simp only [List.setIfInBounds_toArray, List.set_cons_zero, List.set_cons_succ]
          refine drawn_take 37 58 (sv15 a.nm) rfl rfl (by kernel_rfl) (by kernel_rfl) (by kernel_rfl) (by kernel_rfl) (fun _ _ _ h => h) (by rfl) (by assumption) (by intro w hSw; obtain ⟨a0, a1, a2, a3, a4⟩ := HC.out w hSw; clear hSw; go_simp) ?_
          try simp only [List.setIfInBounds_toArray, List.set_cons_zero, List.set_cons_succ]
          refine drawn_any [31] (by kernel_rfl) (by simp) ?_
          refine drawn_cons rfl (fun K hK => ?_) drawn_nil
          go_simp
          refine (HHA.out _ HT8.out).mono ?_
          rintro e w9 ⟨rfl, t9⟩
          have hS9 := hS8.trans t9 (fun _ _ f => f)
          have HT9 := Lib.hid (HT8.out.trans t9 (fun _ _ f => f))
          clear hS8 t9 HT8 HHA
          refine hK.out _ _ _ hS9 ?_
          clear hK K
          try simp only [List.setIfInBounds_toArray, List.set_cons_zero, List.set_cons_succ]
          refine drawn_any [38] (by kernel_rfl) (by simp) ?_
          refine drawn_cons rfl (fun K hK => ?_) drawn_nil
          go_simp
          refine (HRH.out _ HT9.out).mono ?_
          rintro e w10 ⟨rfl, t10⟩
          have hS10 := hS9.trans t10 (fun _ _ f => f)
          have HT10 := Lib.hid (HT9.out.trans t10 (fun _ _ f => f))
          clear hS9 t10 HT9 HRH
          refine hK.out _ _ _ hS10 ?_
          clear hK K
          try simp only [List.setIfInBounds_toArray, List.set_cons_zero, List.set_cons_succ]
          refine drawn_take 39 60 (.bool false) rfl rfl (by kernel_rfl) (by kernel_rfl) (by kernel_rfl) (by kernel_rfl) (fun _ _ _ h => h) (by rfl) (by assumption) (by intro w hSw; obtain hS1 := hSw; go_simp) ?_
          try simp only [List.setIfInBounds_toArray, List.set_cons_zero, List.set_cons_succ]
          refine drawn_take 40 61 (.bool false) rfl rfl (by kernel_rfl) (by kernel_rfl) (by kernel_rfl) (by kernel_rfl) (fun _ _ _ h => h) (by rfl) (by assumption) (by intro w hSw; obtain hS1 := hSw; go_simp) ?_
          try simp only [List.setIfInBounds_toArray, List.set_cons_zero, List.set_cons_succ]
          refine drawn_take 41 62 (.bool false) rfl rfl (by kernel_rfl) (by kernel_rfl) (by kernel_rfl) (by kernel_rfl) (fun _ _ _ h => h) (by rfl) (by assumption) (by intro w hSw; obtain hS1 := hSw; go_simp) ?_
          try simp only [List.setIfInBounds_toArray, List.set_cons_zero, List.set_cons_succ]
          refine drawn_take 42 63 (.pointer (some ⟨g, 0, none⟩)) rfl rfl (by kernel_rfl) (by kernel_rfl) (by kernel_rfl) (by kernel_rfl) (fun _ _ _ h => h) (by rfl) (by assumption) (by intro w hSw; obtain hS1 := hSw; go_simp) ?_
          try simp only [List.setIfInBounds_toArray, List.set_cons_zero, List.set_cons_succ]
          refine drawn_take 43 64 (.slice (some ad) l.length c) rfl rfl (by kernel_rfl) (by kernel_rfl) (by kernel_rfl) (by kernel_rfl) (fun _ _ _ h => h) (by rfl) (by assumption) (by intro w hSw; obtain hS1 := hSw; go_simp) ?_
          try simp only [List.setIfInBounds_toArray, List.set_cons_zero, List.set_cons_succ]
          refine drawn_take 44 65 (.int .i64 (i : Int)) rfl rfl (by kernel_rfl) (by kernel_rfl) (by kernel_rfl) (by kernel_rfl) (fun _ _ _ h => h) (by rfl) (by assumption) (by intro w hSw; obtain hS1 := hSw; go_simp) ?_
          try simp only [List.setIfInBounds_toArray, List.set_cons_zero, List.set_cons_succ]
          refine drawn_take 45 66 (.pointer (some (ad.add (i * 5)))) rfl rfl (by kernel_rfl) (by kernel_rfl) (by kernel_rfl) (by kernel_rfl) (fun _ _ _ h => h) (by rfl) (by assumption) (by intro w hSw; obtain hS1 := hSw; go_simp) ?_
          try simp only [List.setIfInBounds_toArray, List.set_cons_zero, List.set_cons_succ]
          refine drawn_take 46 67 (.pointer (some ⟨(ad.add (i * 5)).block, (ad.add (i * 5)).off + 1, none⟩)) rfl rfl (by kernel_rfl) (by kernel_rfl) (by kernel_rfl) (by kernel_rfl) (fun _ _ _ h => h) (by rfl) (by assumption) (by intro w hSw; obtain hS1 := hSw; go_simp) ?_
          try simp only [List.setIfInBounds_toArray, List.set_cons_zero, List.set_cons_succ]
          refine drawn_take 47 68 (sv15 a.nm) rfl rfl (by kernel_rfl) (by kernel_rfl) (by kernel_rfl) (by kernel_rfl) (fun _ _ _ h => h) (by rfl) (by assumption) (by intro w hSw; obtain ⟨a0, a1, a2, a3, a4⟩ := HC.out w hSw; clear hSw; go_simp) ?_
          try simp only [List.setIfInBounds_toArray, List.set_cons_zero, List.set_cons_succ]
          refine drawn_take 49 70 (.pointer (some ⟨r, 0, none⟩)) rfl rfl (by kernel_rfl) (by kernel_rfl) (by kernel_rfl) (by kernel_rfl) (fun _ _ _ h => h) (by rfl) (by assumption) (by intro w hSw; obtain hS1 := hSw; go_simp) ?_
          try simp only [List.setIfInBounds_toArray, List.set_cons_zero, List.set_cons_succ]
          refine drawn_take 50 71 (.slice (some ad) l.length c) rfl rfl (by kernel_rfl) (by kernel_rfl) (by kernel_rfl) (by kernel_rfl) (fun _ _ _ h => h) (by rfl) (by assumption) (by intro w hSw; obtain hS1 := hSw; go_simp) ?_
          try simp only [List.setIfInBounds_toArray, List.set_cons_zero, List.set_cons_succ]
          refine drawn_take 51 72 (.int .i64 (i : Int)) rfl rfl (by kernel_rfl) (by kernel_rfl) (by kernel_rfl) (by kernel_rfl) (fun _ _ _ h => h) (by rfl) (by assumption) (by intro w hSw; obtain hS1 := hSw; go_simp) ?_
          try simp only [List.setIfInBounds_toArray, List.set_cons_zero, List.set_cons_succ]
          refine drawn_take 52 73 (.pointer (some (ad.add (i * 5)))) rfl rfl (by kernel_rfl) (by kernel_rfl) (by kernel_rfl) (by kernel_rfl) (fun _ _ _ h => h) (by rfl) (by assumption) (by intro w hSw; obtain hS1 := hSw; go_simp) ?_
          try simp only [List.setIfInBounds_toArray, List.set_cons_zero, List.set_cons_succ]
          refine drawn_take 53 74 (.pointer (some ⟨(ad.add (i * 5)).block, (ad.add (i * 5)).off + 1, none⟩)) rfl rfl (by kernel_rfl) (by kernel_rfl) (by kernel_rfl) (by kernel_rfl) (fun _ _ _ h => h) (by rfl) (by assumption) (by intro w hSw; obtain hS1 := hSw; go_simp) ?_
          try simp only [List.setIfInBounds_toArray, List.set_cons_zero, List.set_cons_succ]
          refine drawn_take 54 75 (sv15 a.nm) rfl rfl (by kernel_rfl) (by kernel_rfl) (by kernel_rfl) (by kernel_rfl) (fun _ _ _ h => h) (by rfl) (by assumption) (by intro w hSw; obtain ⟨a0, a1, a2, a3, a4⟩ := HC.out w hSw; clear hSw; go_simp) ?_
          try simp only [List.setIfInBounds_toArray, List.set_cons_zero, List.set_cons_succ]
          refine drawn_any [48] (by kernel_rfl) (by simp) ?_
          refine drawn_cons rfl (fun K hK => ?_) drawn_nil
          go_simp
          refine (HLO.out _ HT10.out).mono ?_
          rintro e w11 ⟨rfl, t11⟩
          have hS11 := hS10.trans t11 (fun _ _ f => f)
          have HT11 := Lib.hid (HT10.out.trans t11 (fun _ _ f => f))
          clear hS10 t11 HT10 HLO
          refine hK.out _ _ _ hS11 ?_
          clear hK K
          try simp only [List.setIfInBounds_toArray, List.set_cons_zero, List.set_cons_succ]
          refine drawn_any [55] (by kernel_rfl) (by simp) ?_
          refine drawn_cons rfl (fun K hK => ?_) drawn_nil
          go_simp
          refine (HRL.out _ HT11.out).mono ?_
          rintro e w12 ⟨rfl, t12⟩
          have hS12 := hS11.trans t12 (fun _ _ f => f)
          have HT12 := Lib.hid (HT11.out.trans t12 (fun _ _ f => f))
          clear hS11 t12 HT11 HRL
          refine hK.out _ _ _ hS12 ?_
          clear hK K
          try simp only [List.setIfInBounds_toArray, List.set_cons_zero, List.set_cons_succ]
          refine drawn_take 56 77 (.bool false) rfl rfl (by kernel_rfl) (by kernel_rfl) (by kernel_rfl) (by kernel_rfl) (fun _ _ _ h => h) (by rfl) (by assumption) (by intro w hSw; obtain hS1 := hSw; go_simp) ?_
          try simp only [List.setIfInBounds_toArray, List.set_cons_zero, List.set_cons_succ]
          refine drawn_take 57 78 (.bool false) rfl rfl (by kernel_rfl) (by kernel_rfl) (by kernel_rfl) (by kernel_rfl) (fun _ _ _ h => h) (by rfl) (by assumption) (by intro w hSw; obtain hS1 := hSw; go_simp) ?_
          try simp only [List.setIfInBounds_toArray, List.set_cons_zero, List.set_cons_succ]
          refine drawn_take 58 79 (.bool false) rfl rfl (by kernel_rfl) (by kernel_rfl) (by kernel_rfl) (by kernel_rfl) (fun _ _ _ h => h) (by rfl) (by assumption) (by intro w hSw; obtain hS1 := hSw; go_simp) ?_
          try simp only [List.setIfInBounds_toArray, List.set_cons_zero, List.set_cons_succ]
          refine drawn_take 59 80 (.pointer (some ⟨g, 0, none⟩)) rfl rfl (by kernel_rfl) (by kernel_rfl) (by kernel_rfl) (by kernel_rfl) (fun _ _ _ h => h) (by rfl) (by assumption) (by intro w hSw; obtain hS1 := hSw; go_simp) ?_
          try simp only [List.setIfInBounds_toArray, List.set_cons_zero, List.set_cons_succ]
          refine drawn_take 61 82 (.pointer (some ⟨r, 0, none⟩)) rfl rfl (by kernel_rfl) (by kernel_rfl) (by kernel_rfl) (by kernel_rfl) (fun _ _ _ h => h) (by rfl) (by assumption) (by intro w hSw; obtain hS1 := hSw; go_simp) ?_
          try simp only [List.setIfInBounds_toArray, List.set_cons_zero, List.set_cons_succ]
          refine drawn_any [60] (by kernel_rfl) (by simp) ?_
          refine drawn_cons rfl (fun K hK => ?_) drawn_nil
          go_simp
          refine (HNA.out _ HT12.out).mono ?_
          rintro e w13 ⟨u1, rfl, hu1, t13⟩
          have hS13 := hS12.trans t13 (fun _ _ f => f)
          have HT13 := Lib.hid (HT12.out.trans t13 (fun _ _ f => f))
          obtain ⟨B1, d1, rfl⟩ := hu1.shape
          have HU1 := Lib.hid hu1
          clear hu1 hS12 t13 HT12 HNA
          refine hK.out _ _ _ hS13 ?_
          clear hK K
          try simp only [List.setIfInBounds_toArray, List.set_cons_zero, List.set_cons_succ]
          refine drawn_any [62] (by kernel_rfl) (by simp) ?_
          refine drawn_cons rfl (fun K hK => ?_) drawn_nil
          go_simp
          refine (HRN.out _ HT13.out).mono ?_
          rintro e w14 ⟨u2, rfl, hu2, t14⟩
          have hS14 := hS13.trans t14 (fun _ _ f => f)
          have HT14 := Lib.hid (HT13.out.trans t14 (fun _ _ f => f))
          obtain ⟨B2, d2, rfl⟩ := hu2.shape
          have HSM : Hid (∀ W, Turn (fun _ => False) w4 W → W = w14 → Calls Try.prog 18 #[.slice B1 nl.length d1, .slice B2 nl.length d2] W fun e w' => e = .returned (.bool true) ∧ Turn (fun _ => False) W w') := fun W _ e => by subst e; exact same_refl10 _ _ nl W (HU1.out.later t14) hu2 HNL.out
          clear hu2 hS13 t14 HT13 HRN
          refine hK.out _ _ _ hS14 ?_
          clear hK K
          try simp only [List.setIfInBounds_toArray, List.set_cons_zero, List.set_cons_succ]
          refine drawn_any [63] (by kernel_rfl) (by simp) ?_
          refine drawn_cons rfl (fun K hK => ?_) drawn_nil
          go_simp
          refine (HSM.out _ HT14.out rfl).mono ?_
          rintro e w15 ⟨rfl, t15⟩
          have hS15 := hS14.trans t15 (fun _ _ f => f)
          have HT15 := Lib.hid (HT14.out.trans t15 (fun _ _ f => f))
          clear hS14 t15 HT14 HSM
          refine hK.out _ _ _ hS15 ?_
          clear hK K
          try simp only [List.setIfInBounds_toArray, List.set_cons_zero, List.set_cons_succ]
          refine drawn_take 64 85 (.bool false) rfl rfl (by kernel_rfl) (by kernel_rfl) (by kernel_rfl) (by kernel_rfl) (fun _ _ _ h => h) (by rfl) (by assumption) (by intro w hSw; obtain hS1 := hSw; go_simp) ?_
          try simp only [List.setIfInBounds_toArray, List.set_cons_zero, List.set_cons_succ]
          refine drawn_last1 65 86 (.bool false) rfl rfl (by kernel_rfl) (by kernel_rfl) (by rfl) (by intro w; go_simp) hS15 ?_
          try simp only [List.setIfInBounds_toArray, List.set_cons_zero, List.set_cons_succ]
          have HP15 := Lib.hid (HP4.out.later HP.out HT15.out)
          clear hS15 HT15 HP4
          go_wp2
          go_roundw
          case rel => exact ⟨i + 1, by go_num, hlt, _, _, _, HP15.out⟩
          case measure => simp [intOf]; omega
        · have hx := HIS.out w4 HT4.out
          go_simp
          refine hK.out _ _ _ hS4 ?_
          clear hK K hx
          try simp only [List.setIfInBounds_toArray, List.set_cons_zero, List.set_cons_succ]
          refine drawn_any [10] (by kernel_rfl) (by simp) ?_
          refine drawn_cons rfl (fun K hK => ?_) drawn_nil
          go_simp
          refine (HDN.out _ HT4.out).mono ?_
          rintro e w6 ⟨rfl, t6⟩
          have hS6 := hS4.trans t6 (fun _ _ f => f)
          have HT6 := Lib.hid (HT4.out.trans t6 (fun _ _ f => f))
          clear hS4 t6 HT4 HDN
          refine hK.out _ _ _ hS6 ?_
          clear hK K
          try simp only [List.setIfInBounds_toArray, List.set_cons_zero, List.set_cons_succ]
          refine drawn_take 15 36 (.bool false) rfl rfl (by kernel_rfl) (by kernel_rfl) (by kernel_rfl) (by kernel_rfl) (fun _ _ _ h => h) (by rfl) (by assumption) (by intro w hSw; obtain hS1 := hSw; go_simp) ?_
          try simp only [List.setIfInBounds_toArray, List.set_cons_zero, List.set_cons_succ]
          refine drawn_take 16 37 (.bool false) rfl rfl (by kernel_rfl) (by kernel_rfl) (by kernel_rfl) (by kernel_rfl) (fun _ _ _ h => h) (by rfl) (by assumption) (by intro w hSw; obtain hS1 := hSw; go_simp) ?_
          try simp only [List.setIfInBounds_toArray, List.set_cons_zero, List.set_cons_succ]
          refine drawn_take 17 38 (.bool false) rfl rfl (by kernel_rfl) (by kernel_rfl) (by kernel_rfl) (by kernel_rfl) (fun _ _ _ h => h) (by rfl) (by assumption) (by intro w hSw; obtain hS1 := hSw; go_simp) ?_
          try simp only [List.setIfInBounds_toArray, List.set_cons_zero, List.set_cons_succ]
          refine drawn_take 18 39 (.pointer (some ⟨g, 0, none⟩)) rfl rfl (by kernel_rfl) (by kernel_rfl) (by kernel_rfl) (by kernel_rfl) (fun _ _ _ h => h) (by rfl) (by assumption) (by intro w hSw; obtain hS1 := hSw; go_simp) ?_
          try simp only [List.setIfInBounds_toArray, List.set_cons_zero, List.set_cons_succ]
          refine drawn_take 20 41 (.pointer (some ⟨r, 0, none⟩)) rfl rfl (by kernel_rfl) (by kernel_rfl) (by kernel_rfl) (by kernel_rfl) (fun _ _ _ h => h) (by rfl) (by assumption) (by intro w hSw; obtain hS1 := hSw; go_simp) ?_
          try simp only [List.setIfInBounds_toArray, List.set_cons_zero, List.set_cons_succ]
          refine drawn_any [19] (by kernel_rfl) (by simp) ?_
          refine drawn_cons rfl (fun K hK => ?_) drawn_nil
          go_simp
          refine (HBY.out _ HT6.out).mono ?_
          rintro e w7 ⟨rfl, t7⟩
          have hS7 := hS6.trans t7 (fun _ _ f => f)
          have HT7 := Lib.hid (HT6.out.trans t7 (fun _ _ f => f))
          clear hS6 t7 HT6 HBY
          refine hK.out _ _ _ hS7 ?_
          clear hK K
          try simp only [List.setIfInBounds_toArray, List.set_cons_zero, List.set_cons_succ]
          refine drawn_any [21] (by kernel_rfl) (by simp) ?_
          refine drawn_cons rfl (fun K hK => ?_) drawn_nil
          go_simp
          refine (HRB.out _ HT7.out).mono ?_
          rintro e w8 ⟨rfl, t8⟩
          have hS8 := hS7.trans t8 (fun _ _ f => f)
          have HT8 := Lib.hid (HT7.out.trans t8 (fun _ _ f => f))
          clear hS7 t8 HT7 HRB
          refine hK.out _ _ _ hS8 ?_
          clear hK K
          try simp only [List.setIfInBounds_toArray, List.set_cons_zero, List.set_cons_succ]
          refine drawn_take 22 43 (.bool false) rfl rfl (by kernel_rfl) (by kernel_rfl) (by kernel_rfl) (by kernel_rfl) (fun _ _ _ h => h) (by rfl) (by assumption) (by intro w hSw; obtain hS1 := hSw; go_simp) ?_
          try simp only [List.setIfInBounds_toArray, List.set_cons_zero, List.set_cons_succ]
          refine drawn_take 23 44 (.bool false) rfl rfl (by kernel_rfl) (by kernel_rfl) (by kernel_rfl) (by kernel_rfl) (fun _ _ _ h => h) (by rfl) (by assumption) (by intro w hSw; obtain hS1 := hSw; go_simp) ?_
          try simp only [List.setIfInBounds_toArray, List.set_cons_zero, List.set_cons_succ]
          refine drawn_take 24 45 (.bool false) rfl rfl (by kernel_rfl) (by kernel_rfl) (by kernel_rfl) (by kernel_rfl) (fun _ _ _ h => h) (by rfl) (by assumption) (by intro w hSw; obtain hS1 := hSw; go_simp) ?_
          try simp only [List.setIfInBounds_toArray, List.set_cons_zero, List.set_cons_succ]
          refine drawn_take 25 46 (.pointer (some ⟨g, 0, none⟩)) rfl rfl (by kernel_rfl) (by kernel_rfl) (by kernel_rfl) (by kernel_rfl) (fun _ _ _ h => h) (by rfl) (by assumption) (by intro w hSw; obtain hS1 := hSw; go_simp) ?_
          try simp only [List.setIfInBounds_toArray, List.set_cons_zero, List.set_cons_succ]
          refine drawn_take 26 47 (.slice (some ad) l.length c) rfl rfl (by kernel_rfl) (by kernel_rfl) (by kernel_rfl) (by kernel_rfl) (fun _ _ _ h => h) (by rfl) (by assumption) (by intro w hSw; obtain hS1 := hSw; go_simp) ?_
          try simp only [List.setIfInBounds_toArray, List.set_cons_zero, List.set_cons_succ]
          refine drawn_take 27 48 (.int .i64 (i : Int)) rfl rfl (by kernel_rfl) (by kernel_rfl) (by kernel_rfl) (by kernel_rfl) (fun _ _ _ h => h) (by rfl) (by assumption) (by intro w hSw; obtain hS1 := hSw; go_simp) ?_
          try simp only [List.setIfInBounds_toArray, List.set_cons_zero, List.set_cons_succ]
          refine drawn_take 28 49 (.pointer (some (ad.add (i * 5)))) rfl rfl (by kernel_rfl) (by kernel_rfl) (by kernel_rfl) (by kernel_rfl) (fun _ _ _ h => h) (by rfl) (by assumption) (by intro w hSw; obtain hS1 := hSw; go_simp) ?_
          try simp only [List.setIfInBounds_toArray, List.set_cons_zero, List.set_cons_succ]
          refine drawn_take 29 50 (.pointer (some ⟨(ad.add (i * 5)).block, (ad.add (i * 5)).off + 1, none⟩)) rfl rfl (by kernel_rfl) (by kernel_rfl) (by kernel_rfl) (by kernel_rfl) (fun _ _ _ h => h) (by rfl) (by assumption) (by intro w hSw; obtain hS1 := hSw; go_simp) ?_
          try simp only [List.setIfInBounds_toArray, List.set_cons_zero, List.set_cons_succ]
          refine drawn_take 30 51 (sv15 a.nm) rfl rfl (by kernel_rfl) (by kernel_rfl) (by kernel_rfl) (by kernel_rfl) (fun _ _ _ h => h) (by rfl) (by assumption) (by intro w hSw; obtain ⟨a0, a1, a2, a3, a4⟩ := HC.out w hSw; clear hSw; go_simp) ?_
          try simp only [List.setIfInBounds_toArray, List.set_cons_zero, List.set_cons_succ]
          refine drawn_take 32 53 (.pointer (some ⟨r, 0, none⟩)) rfl rfl (by kernel_rfl) (by kernel_rfl) (by kernel_rfl) (by kernel_rfl) (fun _ _ _ h => h) (by rfl) (by assumption) (by intro w hSw; obtain hS1 := hSw; go_simp) ?_
          try simp only [List.setIfInBounds_toArray, List.set_cons_zero, List.set_cons_succ]
          refine drawn_take 33 54 (.slice (some ad) l.length c) rfl rfl (by kernel_rfl) (by kernel_rfl) (by kernel_rfl) (by kernel_rfl) (fun _ _ _ h => h) (by rfl) (by assumption) (by intro w hSw; obtain hS1 := hSw; go_simp) ?_
          try simp only [List.setIfInBounds_toArray, List.set_cons_zero, List.set_cons_succ]
          refine drawn_take 34 55 (.int .i64 (i : Int)) rfl rfl (by kernel_rfl) (by kernel_rfl) (by kernel_rfl) (by kernel_rfl) (fun _ _ _ h => h) (by rfl) (by assumption) (by intro w hSw; obtain hS1 := hSw; go_simp) ?_
          try simp only [List.setIfInBounds_toArray, List.set_cons_zero, List.set_cons_succ]
          refine drawn_take 35 56 (.pointer (some (ad.add (i * 5)))) rfl rfl (by kernel_rfl) (by kernel_rfl) (by kernel_rfl) (by kernel_rfl) (fun _ _ _ h => h) (by rfl) (by assumption) (by intro w hSw; obtain hS1 := hSw; go_simp) ?_
          try simp only [List.setIfInBounds_toArray, List.set_cons_zero, List.set_cons_succ]
          refine drawn_take 36 57 (.pointer (some ⟨(ad.add (i * 5)).block, (ad.add (i * 5)).off + 1, none⟩)) rfl rfl (by kernel_rfl) (by kernel_rfl) (by kernel_rfl) (by kernel_rfl) (fun _ _ _ h => h) (by rfl) (by assumption) (by intro w hSw; obtain hS1 := hSw; go_simp) ?_
          try simp only [List.setIfInBounds_toArray, List.set_cons_zero, List.set_cons_succ]
          refine drawn_take 37 58 (sv15 a.nm) rfl rfl (by kernel_rfl) (by kernel_rfl) (by kernel_rfl) (by kernel_rfl) (fun _ _ _ h => h) (by rfl) (by assumption) (by intro w hSw; obtain ⟨a0, a1, a2, a3, a4⟩ := HC.out w hSw; clear hSw; go_simp) ?_
          try simp only [List.setIfInBounds_toArray, List.set_cons_zero, List.set_cons_succ]
          refine drawn_any [31] (by kernel_rfl) (by simp) ?_
          refine drawn_cons rfl (fun K hK => ?_) drawn_nil
          go_simp
          refine (HHA.out _ HT8.out).mono ?_
          rintro e w9 ⟨rfl, t9⟩
          have hS9 := hS8.trans t9 (fun _ _ f => f)
          have HT9 := Lib.hid (HT8.out.trans t9 (fun _ _ f => f))
          clear hS8 t9 HT8 HHA
          refine hK.out _ _ _ hS9 ?_
          clear hK K
          try simp only [List.setIfInBounds_toArray, List.set_cons_zero, List.set_cons_succ]
          refine drawn_any [38] (by kernel_rfl) (by simp) ?_
          refine drawn_cons rfl (fun K hK => ?_) drawn_nil
          go_simp
          refine (HRH.out _ HT9.out).mono ?_
          rintro e w10 ⟨rfl, t10⟩
          have hS10 := hS9.trans t10 (fun _ _ f => f)
          have HT10 := Lib.hid (HT9.out.trans t10 (fun _ _ f => f))
          clear hS9 t10 HT9 HRH
          refine hK.out _ _ _ hS10 ?_
          clear hK K
          try simp only [List.setIfInBounds_toArray, List.set_cons_zero, List.set_cons_succ]
          refine drawn_take 39 60 (.bool false) rfl rfl (by kernel_rfl) (by kernel_rfl) (by kernel_rfl) (by kernel_rfl) (fun _ _ _ h => h) (by rfl) (by assumption) (by intro w hSw; obtain hS1 := hSw; go_simp) ?_
          try simp only [List.setIfInBounds_toArray, List.set_cons_zero, List.set_cons_succ]
          refine drawn_take 40 61 (.bool false) rfl rfl (by kernel_rfl) (by kernel_rfl) (by kernel_rfl) (by kernel_rfl) (fun _ _ _ h => h) (by rfl) (by assumption) (by intro w hSw; obtain hS1 := hSw; go_simp) ?_
          try simp only [List.setIfInBounds_toArray, List.set_cons_zero, List.set_cons_succ]
          refine drawn_take 41 62 (.bool false) rfl rfl (by kernel_rfl) (by kernel_rfl) (by kernel_rfl) (by kernel_rfl) (fun _ _ _ h => h) (by rfl) (by assumption) (by intro w hSw; obtain hS1 := hSw; go_simp) ?_
          try simp only [List.setIfInBounds_toArray, List.set_cons_zero, List.set_cons_succ]
          refine drawn_take 42 63 (.pointer (some ⟨g, 0, none⟩)) rfl rfl (by kernel_rfl) (by kernel_rfl) (by kernel_rfl) (by kernel_rfl) (fun _ _ _ h => h) (by rfl) (by assumption) (by intro w hSw; obtain hS1 := hSw; go_simp) ?_
          try simp only [List.setIfInBounds_toArray, List.set_cons_zero, List.set_cons_succ]
          refine drawn_take 43 64 (.slice (some ad) l.length c) rfl rfl (by kernel_rfl) (by kernel_rfl) (by kernel_rfl) (by kernel_rfl) (fun _ _ _ h => h) (by rfl) (by assumption) (by intro w hSw; obtain hS1 := hSw; go_simp) ?_
          try simp only [List.setIfInBounds_toArray, List.set_cons_zero, List.set_cons_succ]
          refine drawn_take 44 65 (.int .i64 (i : Int)) rfl rfl (by kernel_rfl) (by kernel_rfl) (by kernel_rfl) (by kernel_rfl) (fun _ _ _ h => h) (by rfl) (by assumption) (by intro w hSw; obtain hS1 := hSw; go_simp) ?_
          try simp only [List.setIfInBounds_toArray, List.set_cons_zero, List.set_cons_succ]
          refine drawn_take 45 66 (.pointer (some (ad.add (i * 5)))) rfl rfl (by kernel_rfl) (by kernel_rfl) (by kernel_rfl) (by kernel_rfl) (fun _ _ _ h => h) (by rfl) (by assumption) (by intro w hSw; obtain hS1 := hSw; go_simp) ?_
          try simp only [List.setIfInBounds_toArray, List.set_cons_zero, List.set_cons_succ]
          refine drawn_take 46 67 (.pointer (some ⟨(ad.add (i * 5)).block, (ad.add (i * 5)).off + 1, none⟩)) rfl rfl (by kernel_rfl) (by kernel_rfl) (by kernel_rfl) (by kernel_rfl) (fun _ _ _ h => h) (by rfl) (by assumption) (by intro w hSw; obtain hS1 := hSw; go_simp) ?_
          try simp only [List.setIfInBounds_toArray, List.set_cons_zero, List.set_cons_succ]
          refine drawn_take 47 68 (sv15 a.nm) rfl rfl (by kernel_rfl) (by kernel_rfl) (by kernel_rfl) (by kernel_rfl) (fun _ _ _ h => h) (by rfl) (by assumption) (by intro w hSw; obtain ⟨a0, a1, a2, a3, a4⟩ := HC.out w hSw; clear hSw; go_simp) ?_
          try simp only [List.setIfInBounds_toArray, List.set_cons_zero, List.set_cons_succ]
          refine drawn_take 49 70 (.pointer (some ⟨r, 0, none⟩)) rfl rfl (by kernel_rfl) (by kernel_rfl) (by kernel_rfl) (by kernel_rfl) (fun _ _ _ h => h) (by rfl) (by assumption) (by intro w hSw; obtain hS1 := hSw; go_simp) ?_
          try simp only [List.setIfInBounds_toArray, List.set_cons_zero, List.set_cons_succ]
          refine drawn_take 50 71 (.slice (some ad) l.length c) rfl rfl (by kernel_rfl) (by kernel_rfl) (by kernel_rfl) (by kernel_rfl) (fun _ _ _ h => h) (by rfl) (by assumption) (by intro w hSw; obtain hS1 := hSw; go_simp) ?_
          try simp only [List.setIfInBounds_toArray, List.set_cons_zero, List.set_cons_succ]
          refine drawn_take 51 72 (.int .i64 (i : Int)) rfl rfl (by kernel_rfl) (by kernel_rfl) (by kernel_rfl) (by kernel_rfl) (fun _ _ _ h => h) (by rfl) (by assumption) (by intro w hSw; obtain hS1 := hSw; go_simp) ?_
          try simp only [List.setIfInBounds_toArray, List.set_cons_zero, List.set_cons_succ]
          refine drawn_take 52 73 (.pointer (some (ad.add (i * 5)))) rfl rfl (by kernel_rfl) (by kernel_rfl) (by kernel_rfl) (by kernel_rfl) (fun _ _ _ h => h) (by rfl) (by assumption) (by intro w hSw; obtain hS1 := hSw; go_simp) ?_
          try simp only [List.setIfInBounds_toArray, List.set_cons_zero, List.set_cons_succ]
          refine drawn_take 53 74 (.pointer (some ⟨(ad.add (i * 5)).block, (ad.add (i * 5)).off + 1, none⟩)) rfl rfl (by kernel_rfl) (by kernel_rfl) (by kernel_rfl) (by kernel_rfl) (fun _ _ _ h => h) (by rfl) (by assumption) (by intro w hSw; obtain hS1 := hSw; go_simp) ?_
          try simp only [List.setIfInBounds_toArray, List.set_cons_zero, List.set_cons_succ]
          refine drawn_take 54 75 (sv15 a.nm) rfl rfl (by kernel_rfl) (by kernel_rfl) (by kernel_rfl) (by kernel_rfl) (fun _ _ _ h => h) (by rfl) (by assumption) (by intro w hSw; obtain ⟨a0, a1, a2, a3, a4⟩ := HC.out w hSw; clear hSw; go_simp) ?_
          try simp only [List.setIfInBounds_toArray, List.set_cons_zero, List.set_cons_succ]
          refine drawn_any [48] (by kernel_rfl) (by simp) ?_
          refine drawn_cons rfl (fun K hK => ?_) drawn_nil
          go_simp
          refine (HLO.out _ HT10.out).mono ?_
          rintro e w11 ⟨rfl, t11⟩
          have hS11 := hS10.trans t11 (fun _ _ f => f)
          have HT11 := Lib.hid (HT10.out.trans t11 (fun _ _ f => f))
          clear hS10 t11 HT10 HLO
          refine hK.out _ _ _ hS11 ?_
          clear hK K
          try simp only [List.setIfInBounds_toArray, List.set_cons_zero, List.set_cons_succ]
          refine drawn_any [55] (by kernel_rfl) (by simp) ?_
          refine drawn_cons rfl (fun K hK => ?_) drawn_nil
          go_simp
          refine (HRL.out _ HT11.out).mono ?_
          rintro e w12 ⟨rfl, t12⟩
          have hS12 := hS11.trans t12 (fun _ _ f => f)
          have HT12 := Lib.hid (HT11.out.trans t12 (fun _ _ f => f))
          clear hS11 t12 HT11 HRL
          refine hK.out _ _ _ hS12 ?_
          clear hK K
          try simp only [List.setIfInBounds_toArray, List.set_cons_zero, List.set_cons_succ]
          refine drawn_take 56 77 (.bool false) rfl rfl (by kernel_rfl) (by kernel_rfl) (by kernel_rfl) (by kernel_rfl) (fun _ _ _ h => h) (by rfl) (by assumption) (by intro w hSw; obtain hS1 := hSw; go_simp) ?_
          try simp only [List.setIfInBounds_toArray, List.set_cons_zero, List.set_cons_succ]
          refine drawn_take 57 78 (.bool false) rfl rfl (by kernel_rfl) (by kernel_rfl) (by kernel_rfl) (by kernel_rfl) (fun _ _ _ h => h) (by rfl) (by assumption) (by intro w hSw; obtain hS1 := hSw; go_simp) ?_
          try simp only [List.setIfInBounds_toArray, List.set_cons_zero, List.set_cons_succ]
          refine drawn_take 58 79 (.bool false) rfl rfl (by kernel_rfl) (by kernel_rfl) (by kernel_rfl) (by kernel_rfl) (fun _ _ _ h => h) (by rfl) (by assumption) (by intro w hSw; obtain hS1 := hSw; go_simp) ?_
          try simp only [List.setIfInBounds_toArray, List.set_cons_zero, List.set_cons_succ]
          refine drawn_take 59 80 (.pointer (some ⟨g, 0, none⟩)) rfl rfl (by kernel_rfl) (by kernel_rfl) (by kernel_rfl) (by kernel_rfl) (fun _ _ _ h => h) (by rfl) (by assumption) (by intro w hSw; obtain hS1 := hSw; go_simp) ?_
          try simp only [List.setIfInBounds_toArray, List.set_cons_zero, List.set_cons_succ]
          refine drawn_take 61 82 (.pointer (some ⟨r, 0, none⟩)) rfl rfl (by kernel_rfl) (by kernel_rfl) (by kernel_rfl) (by kernel_rfl) (fun _ _ _ h => h) (by rfl) (by assumption) (by intro w hSw; obtain hS1 := hSw; go_simp) ?_
          try simp only [List.setIfInBounds_toArray, List.set_cons_zero, List.set_cons_succ]
          refine drawn_any [60] (by kernel_rfl) (by simp) ?_
          refine drawn_cons rfl (fun K hK => ?_) drawn_nil
          go_simp
          refine (HNA.out _ HT12.out).mono ?_
          rintro e w13 ⟨u1, rfl, hu1, t13⟩
          have hS13 := hS12.trans t13 (fun _ _ f => f)
          have HT13 := Lib.hid (HT12.out.trans t13 (fun _ _ f => f))
          obtain ⟨B1, d1, rfl⟩ := hu1.shape
          have HU1 := Lib.hid hu1
          clear hu1 hS12 t13 HT12 HNA
          refine hK.out _ _ _ hS13 ?_
          clear hK K
          try simp only [List.setIfInBounds_toArray, List.set_cons_zero, List.set_cons_succ]
          refine drawn_any [62] (by kernel_rfl) (by simp) ?_
          refine drawn_cons rfl (fun K hK => ?_) drawn_nil
          go_simp
          refine (HRN.out _ HT13.out).mono ?_
          rintro e w14 ⟨u2, rfl, hu2, t14⟩
          have hS14 := hS13.trans t14 (fun _ _ f => f)
          have HT14 := Lib.hid (HT13.out.trans t14 (fun _ _ f => f))
          obtain ⟨B2, d2, rfl⟩ := hu2.shape
          have HSM : Hid (∀ W, Turn (fun _ => False) w4 W → W = w14 → Calls Try.prog 18 #[.slice B1 nl.length d1, .slice B2 nl.length d2] W fun e w' => e = .returned (.bool true) ∧ Turn (fun _ => False) W w') := fun W _ e => by subst e; exact same_refl10 _ _ nl W (HU1.out.later t14) hu2 HNL.out
          clear hu2 hS13 t14 HT13 HRN
          refine hK.out _ _ _ hS14 ?_
          clear hK K
          try simp only [List.setIfInBounds_toArray, List.set_cons_zero, List.set_cons_succ]
          refine drawn_any [63] (by kernel_rfl) (by simp) ?_
          refine drawn_cons rfl (fun K hK => ?_) drawn_nil
          go_simp
          refine (HSM.out _ HT14.out rfl).mono ?_
          rintro e w15 ⟨rfl, t15⟩
          have hS15 := hS14.trans t15 (fun _ _ f => f)
          have HT15 := Lib.hid (HT14.out.trans t15 (fun _ _ f => f))
          clear hS14 t15 HT14 HSM
          refine hK.out _ _ _ hS15 ?_
          clear hK K
          try simp only [List.setIfInBounds_toArray, List.set_cons_zero, List.set_cons_succ]
          refine drawn_take 64 85 (.bool false) rfl rfl (by kernel_rfl) (by kernel_rfl) (by kernel_rfl) (by kernel_rfl) (fun _ _ _ h => h) (by rfl) (by assumption) (by intro w hSw; obtain hS1 := hSw; go_simp) ?_
          try simp only [List.setIfInBounds_toArray, List.set_cons_zero, List.set_cons_succ]
          refine drawn_last1 65 86 (.bool false) rfl rfl (by kernel_rfl) (by kernel_rfl) (by rfl) (by intro w; go_simp) hS15 ?_
          try simp only [List.setIfInBounds_toArray, List.set_cons_zero, List.set_cons_succ]
          have HP15 := Lib.hid (HP4.out.later HP.out HT15.out)
          clear hS15 HT15 HP4
          go_wp2
          go_roundw
          case rel => exact ⟨i + 1, by go_num, hlt, _, _, _, HP15.out⟩
          case measure => simp [intOf]; omega
      · obtain rfl : i = l.length := by omega
        have HTX : Hid (Turn (fun _ => False) w1 wr) := HPY.out.turn
        clear HPY
        go_wp2_with fail
        refine (HAL.out _).mono ?_
        rintro e wz ⟨rfl, tz⟩
        have HTZ := Lib.hid (HTX.out.trans tz (fun _ _ f => f))
        clear tz
        go_wp2
        go_ret
        exact ⟨rfl, HTZ.out⟩

end Go.Proofs.Ytclljogbingjiaa

/-
  The calendar, plain: leap years, months' lengths, the number of a date, and that a number has one date.
-/
namespace Go.Proofs.Ytclljogbingjiaa

def leap (y : Nat) : Bool := y % 4 == 0 && (y % 100 != 0 || y % 400 == 0)
theorem leap_iff (y : Nat) : leap y = true ↔ y % 4 = 0 ∧ (y % 100 ≠ 0 ∨ y % 400 = 0) := by
  simp [leap]
def ylen (y : Nat) : Nat := if leap y then 366 else 365
def mlen (y m : Nat) : Nat :=
  if m = 2 then (if leap y then 29 else 28) else if m = 4 ∨ m = 6 ∨ m = 9 ∨ m = 11 then 30 else if 1 ≤ m ∧ m ≤ 12 then 31 else 0

/-- The days of k years from 1970 on; of a year's first k months. -/
def ydays : Nat → Nat
  | 0 => 0
  | k + 1 => ydays k + ylen (1970 + k)
def mdays (y : Nat) : Nat → Nat
  | 0 => 0
  | k + 1 => mdays y k + mlen y (k + 1)
def num (y m d : Nat) : Nat := ydays (y - 1970) + mdays y (m - 1) + (d - 1)
def Valid (y m d : Nat) : Prop := 1970 ≤ y ∧ 1 ≤ m ∧ m ≤ 12 ∧ 1 ≤ d ∧ d ≤ mlen y m

theorem ylen_two (y : Nat) : ylen y = 365 ∨ ylen y = 366 := by
  unfold ylen
  split
  · exact .inr rfl
  · exact .inl rfl
/-- The years' days, by division. -/
theorem ydays_eq : ∀ k, ydays k + 477 + (1969 + k) / 100 = 365 * k + (1969 + k) / 4 + (1969 + k) / 400
  | 0 => rfl
  | k + 1 => by
    have h := ydays_eq k
    show ydays k + ylen (1970 + k) + 477 + _ = _
    unfold ylen
    by_cases hl : leap (1970 + k) = true
    · rw [if_pos hl]
      rw [leap_iff] at hl
      omega
    · rw [if_neg hl]
      rw [leap_iff] at hl
      omega

/-- The months' days, one by one. -/
theorem mdays_at (y : Nat) : mdays y 0 = 0 ∧ mdays y 1 = 31 ∧ mdays y 2 = (if leap y then 60 else 59) ∧ mdays y 3 = (if leap y then 91 else 90) ∧ mdays y 4 = (if leap y then 121 else 120) ∧ mdays y 5 = (if leap y then 152 else 151) ∧
    mdays y 6 = (if leap y then 182 else 181) ∧ mdays y 7 = (if leap y then 213 else 212) ∧ mdays y 8 = (if leap y then 244 else 243) ∧ mdays y 9 = (if leap y then 274 else 273) ∧ mdays y 10 = (if leap y then 305 else 304) ∧
    mdays y 11 = (if leap y then 335 else 334) ∧ mdays y 12 = ylen y := by
  cases h : leap y <;> simp [mdays, mlen, ylen, h]

theorem mlen_pos {y m : Nat} (h1 : 1 ≤ m) (h2 : m ≤ 12) : 28 ≤ mlen y m ∧ mlen y m ≤ 31 := by
  unfold mlen
  repeat' split
  all_goals omega
theorem mdays_mono (y : Nat) : ∀ (k j : Nat), k ≤ j → mdays y k ≤ mdays y j
  | k, 0, h => by
    obtain rfl : k = 0 := by omega
    exact Nat.le_refl _
  | k, j + 1, h => by
    rcases Nat.lt_or_ge k (j + 1) with h1 | h1
    · have := mdays_mono y k j (by omega)
      show _ ≤ mdays y j + mlen y (j + 1)
      omega
    · obtain rfl : k = j + 1 := by omega
      exact Nat.le_refl _
theorem ydays_mono : ∀ (k j : Nat), k ≤ j → ydays k ≤ ydays j
  | k, 0, h => by
    obtain rfl : k = 0 := by omega
    exact Nat.le_refl _
  | k, j + 1, h => by
    rcases Nat.lt_or_ge k (j + 1) with h1 | h1
    · have := ydays_mono k j (by omega)
      show _ ≤ ydays j + ylen (1970 + j)
      omega
    · obtain rfl : k = j + 1 := by omega
      exact Nat.le_refl _
theorem mdays_year (y : Nat) : mdays y 12 = ylen y := (mdays_at y).2.2.2.2.2.2.2.2.2.2.2.2

/-- A date lies in its month, and that in its year. -/
theorem in_month {y m d : Nat} (h : Valid y m d) : mdays y (m - 1) + (d - 1) < mdays y m := by
  obtain ⟨_, h1, h2, h3, h4⟩ := h
  obtain ⟨k, rfl⟩ : ∃ k, m = k + 1 := ⟨m - 1, by omega⟩
  show mdays y (k + 1 - 1) + (d - 1) < mdays y k + mlen y (k + 1)
  rw [Nat.add_sub_cancel]
  omega
theorem in_year {y m d : Nat} (h : Valid y m d) : mdays y (m - 1) + (d - 1) < ylen y := by
  have h1 := in_month h
  have h2 := mdays_mono y m 12 h.2.2.1
  rw [mdays_year] at h2
  omega
theorem num_lt {y m d : Nat} (h : Valid y m d) : ydays (y - 1970) ≤ num y m d ∧ num y m d < ydays (y - 1970 + 1) := by
  have h1 := in_year h
  have h2 := h.1
  have e : ydays (y - 1970 + 1) = ydays (y - 1970) + ylen y := by
    show ydays (y - 1970) + ylen (1970 + (y - 1970)) = _
    rw [show 1970 + (y - 1970) = y by omega]
  unfold num
  rw [e]
  omega

/-- A number has one date. -/
theorem num_inj {y m d y' m' d' : Nat} (h : Valid y m d) (h' : Valid y' m' d') (e : num y m d = num y' m' d') : y = y' ∧ m = m' ∧ d = d' := by
  have a := num_lt h
  have b := num_lt h'
  have hy : y = y' := by
    rcases Nat.lt_trichotomy y y' with c | c | c
    · have := ydays_mono (y - 1970 + 1) (y' - 1970) (by have := h.1; have := h'.1; omega)
      omega
    · exact c
    · have := ydays_mono (y' - 1970 + 1) (y - 1970) (by have := h.1; have := h'.1; omega)
      omega
  subst hy
  have e1 : mdays y (m - 1) + (d - 1) = mdays y (m' - 1) + (d' - 1) := by unfold num at e; omega
  have a1 := in_month h
  have b1 := in_month h'
  have hm : m = m' := by
    rcases Nat.lt_trichotomy m m' with c | c | c
    · have := mdays_mono y m (m' - 1) (by omega)
      omega
    · exact c
    · have := mdays_mono y m' (m - 1) (by omega)
      omega
  subst hm
  refine ⟨rfl, rfl, ?_⟩
  have := h.2.2.2.1
  have := h'.2.2.2.1
  omega

/-- The date of a number: year and month by what is left. -/
def yearOf : Nat → Nat → Nat → Nat × Nat
  | 0, y, n => (y, n)
  | f + 1, y, n => if ylen y ≤ n then yearOf f (y + 1) (n - ylen y) else (y, n)
def monthOf : Nat → Nat → Nat → Nat → Nat × Nat
  | 0, _, m, n => (m, n)
  | f + 1, y, m, n => if mlen y m ≤ n then monthOf f y (m + 1) (n - mlen y m) else (m, n)
def dateOf (n : Nat) : Nat × Nat × Nat :=
  ((yearOf n 1970 n).1, (monthOf 11 (yearOf n 1970 n).1 1 (yearOf n 1970 n).2).1, (monthOf 11 (yearOf n 1970 n).1 1 (yearOf n 1970 n).2).2 + 1)

theorem yearOf_spec : ∀ (f y n : Nat), n ≤ f → 1970 ≤ y → y ≤ (yearOf f y n).1 ∧ (yearOf f y n).2 < ylen (yearOf f y n).1 ∧ ydays ((yearOf f y n).1 - 1970) + (yearOf f y n).2 = ydays (y - 1970) + n
  | 0, y, n, h, _ => by
    have h1 := ylen_two y
    exact ⟨Nat.le_refl _, by show n < ylen y; omega, rfl⟩
  | f + 1, y, n, h, hy => by
    have h1 := ylen_two y
    show y ≤ (if ylen y ≤ n then yearOf f (y + 1) (n - ylen y) else (y, n)).1 ∧ _
    by_cases c : ylen y ≤ n
    · have ih := yearOf_spec f (y + 1) (n - ylen y) (by omega) (by omega)
      have e : yearOf (f + 1) y n = yearOf f (y + 1) (n - ylen y) := by show (if _ then _ else _) = _; rw [if_pos c]
      have e2 : ydays (y + 1 - 1970) = ydays (y - 1970) + ylen y := by
        rw [show y + 1 - 1970 = (y - 1970) + 1 by omega]
        show ydays (y - 1970) + ylen (1970 + (y - 1970)) = _
        rw [show 1970 + (y - 1970) = y by omega]
      rw [if_pos c, e]
      rw [e2] at ih
      exact ⟨by omega, ih.2.1, by omega⟩
    · have e : yearOf (f + 1) y n = (y, n) := by show (if _ then _ else _) = _; rw [if_neg c]
      rw [if_neg c, e]
      exact ⟨Nat.le_refl _, by show n < ylen y; omega, rfl⟩

theorem monthOf_spec : ∀ (f y m n : Nat), f + m = 12 → 1 ≤ m → n < mdays y 12 - mdays y (m - 1) →
    m ≤ (monthOf f y m n).1 ∧ (monthOf f y m n).1 ≤ 12 ∧ (monthOf f y m n).2 < mlen y (monthOf f y m n).1 ∧ mdays y ((monthOf f y m n).1 - 1) + (monthOf f y m n).2 = mdays y (m - 1) + n
  | 0, y, m, n, h, h1, h2 => by
    obtain rfl : m = 12 := by omega
    have e : mdays y 12 = mdays y 11 + mlen y 12 := rfl
    exact ⟨Nat.le_refl _, Nat.le_refl _, by show n < mlen y 12; rw [e] at h2; show n < _; have : (12 : Nat) - 1 = 11 := rfl; rw [this] at h2; omega, rfl⟩
  | f + 1, y, m, n, h, h1, h2 => by
    have e0 : mdays y m = mdays y (m - 1) + mlen y m := by
      obtain ⟨k, rfl⟩ : ∃ k, m = k + 1 := ⟨m - 1, by omega⟩
      rfl
    by_cases c : mlen y m ≤ n
    · have e : monthOf (f + 1) y m n = monthOf f y (m + 1) (n - mlen y m) := by show (if _ then _ else _) = _; rw [if_pos c]
      have ih := monthOf_spec f y (m + 1) (n - mlen y m) (by omega) (by omega) (by rw [Nat.add_sub_cancel, e0]; omega)
      rw [Nat.add_sub_cancel, e0] at ih
      rw [e]
      exact ⟨by omega, ih.2.1, ih.2.2.1, by omega⟩
    · have e : monthOf (f + 1) y m n = (m, n) := by show (if _ then _ else _) = _; rw [if_neg c]
      rw [e]
      exact ⟨Nat.le_refl _, by show m ≤ 12; omega, by show n < mlen y m; omega, rfl⟩

theorem dateOf_spec (n : Nat) : Valid (dateOf n).1 (dateOf n).2.1 (dateOf n).2.2 ∧ num (dateOf n).1 (dateOf n).2.1 (dateOf n).2.2 = n := by
  obtain ⟨h1, h2, h3⟩ := yearOf_spec n 1970 n (Nat.le_refl _) (Nat.le_refl _)
  obtain ⟨a1, a2, a3, a4⟩ := monthOf_spec 11 (yearOf n 1970 n).1 1 (yearOf n 1970 n).2 rfl (Nat.le_refl _) (by rw [mdays_year]; exact h2)
  refine ⟨⟨h1, a1, a2, Nat.le_add_left _ _, a3⟩, ?_⟩
  unfold num
  show ydays ((yearOf n 1970 n).1 - 1970) + mdays (yearOf n 1970 n).1 ((monthOf 11 (yearOf n 1970 n).1 1 (yearOf n 1970 n).2).1 - 1) + ((monthOf 11 (yearOf n 1970 n).1 1 (yearOf n 1970 n).2).2 + 1 - 1) = n
  have e1 : mdays (yearOf n 1970 n).1 (1 - 1) = 0 := rfl
  have e2 : ydays (1970 - 1970) = 0 := rfl
  rw [e1] at a4
  rw [e2] at h3
  omega
/-- Whatever date has that number is that date. -/
theorem date_is {y m d n : Nat} (h : Valid y m d) (e : num y m d = n) : dateOf n = (y, m, d) := by
  obtain ⟨h1, h2⟩ := dateOf_spec n
  obtain ⟨a, b, c⟩ := num_inj h1 h (h2.trans e.symm)
  exact Prod.ext a (Prod.ext b c)

/-- A step function between its steps: where f does not fall, and each step begins and ends where s says. For a year, or a month, that is reckoned by a division. -/
theorem bracket (f s : Nat → Nat) (K N : Nat) (hmono : ∀ a b, a ≤ b → b < N → f a ≤ f b) (h0 : s 0 = 0) (hK : s K = N) (hs : ∀ y, y < K → f (s y) = y ∧ f (s (y + 1) - 1) = y ∧ s y < s (y + 1)) :
    ∀ n, n < N → s (f n) ≤ n ∧ n < s (f n + 1) ∧ f n < K := by
  have rise : ∀ k j, j ≤ K → k ≤ j → s k ≤ s j := by
    intro k j
    induction j with
    | zero =>
      intro _ h
      obtain rfl : k = 0 := by omega
      exact Nat.le_refl _
    | succ j ih =>
      intro h1 h2
      rcases Nat.lt_or_ge k (j + 1) with h | h
      · have := ih (by omega) (by omega)
        have := (hs j (by omega)).2.2
        omega
      · obtain rfl : k = j + 1 := by omega
        exact Nat.le_refl _
  intro n hn
  have hK0 : 0 < K := by
    rcases Nat.eq_zero_or_pos K with h | h
    · subst h
      omega
    · exact h
  have hlt : f n < K := by
    obtain ⟨k, rfl⟩ : ∃ k, K = k + 1 := ⟨K - 1, by omega⟩
    have h1 := hs k (by omega)
    have h2 := hmono n (s (k + 1) - 1) (by omega) (by omega)
    omega
  refine ⟨?_, ?_, hlt⟩
  · rcases Nat.lt_or_ge n (s (f n)) with h | h
    · obtain ⟨y, hy⟩ : ∃ y, f n = y + 1 := by
        refine ⟨f n - 1, ?_⟩
        rcases Nat.eq_zero_or_pos (f n) with c | c
        · rw [c] at h
          omega
        · omega
      rw [hy] at h
      have h1 := hs y (by omega)
      have h2 := rise (y + 1) K (Nat.le_refl _) (by omega)
      have h3 := hmono n (s (y + 1) - 1) (by omega) (by omega)
      omega
    · exact h
  · rcases Nat.lt_or_ge n (s (f n + 1)) with h | h
    · exact h
    · rcases Nat.lt_or_ge (f n + 1) K with c | c
      · have h1 := hs (f n + 1) c
        have h3 := hmono (s (f n + 1)) n h hn
        omega
      · have : f n + 1 = K := by omega
        rw [this, hK] at h
        omega

end Go.Proofs.Ytclljogbingjiaa

/-
  Years and months, by the program and by the document.
-/
namespace Go.Proofs.Ytclljogbingjiaa
open Go.RowKit

theorem leap_a {y : Nat} (h4 : (y : Int) % 4 = 0) (h : (y : Int) % 100 = 0) : ((y : Int) % 400 == 0) = leap y := by
  rw [Bool.eq_iff_iff, leap_iff, beq_iff_eq]
  omega
theorem leap_b {y : Nat} (h4 : (y : Int) % 4 = 0) (h : ¬ (y : Int) % 100 = 0) : true = leap y := by
  rw [Bool.eq_iff_iff, leap_iff]
  simp
  omega
theorem leap_c {y : Nat} (h4 : ¬ (y : Int) % 4 = 0) : false = leap y := by
  rw [Bool.eq_iff_iff, leap_iff]
  simp
  omega

/-- How long a month is, of any number. -/
def mlenZ (y : Nat) (m : Int) : Nat := if 0 ≤ m then mlen y m.toNat else 0
theorem mlenZ_nat (y m : Nat) : mlenZ y (m : Int) = mlen y m := by unfold mlenZ; rw [if_pos (by omega), Int.toNat_natCast]

/-- How many days the first n years behind one that 400 divides have. -/
def ahd (n : Nat) : Nat := 365 * n + n / 4 - n / 100 + n / 400

end Go.Proofs.Ytclljogbingjiaa

/-
  Dates, by the program: plain facts on eras, a month's first day, a day's date.
-/
namespace Go.Proofs.Ytclljogbingjiaa
open Go.RowKit

/-- Years by eras, behind 1600. -/
theorem ahd_lt {n : Nat} (h : n ≤ 400) : ahd n ≤ 146097 := by unfold ahd; omega
theorem ahd_start {r : Nat} : ahd (r / 366) ≤ r := by unfold ahd; omega
theorem ydays_ahd {y : Nat} (h : 1970 ≤ y) : ydays (y - 1970) + 134774 = ahd (y - 1601) := by
  have := ydays_eq (y - 1970)
  obtain ⟨k, rfl⟩ : ∃ k, y = k + 1970 := ⟨y - 1970, by omega⟩
  rw [Nat.add_sub_cancel] at this ⊢
  rw [show k + 1970 - 1601 = k + 369 by omega]
  unfold ahd
  omega
theorem ahd_era (E n : Nat) : ahd (400 * E + n) = 146097 * E + ahd n := by unfold ahd; omega
theorem ahd_of {n r : Nat} (h : ahd n ≤ r) (hr : r < 146097) : n < 400 := by
  rcases Nat.lt_or_ge n 400 with c | c
  · exact c
  · obtain ⟨j, rfl⟩ : ∃ j, n = 400 * 1 + j := ⟨n - 400, by omega⟩
    have := ahd_era 1 j
    omega
theorem i64_eq {a b : Int} (h : a = b) : Value.int .i64 a = Value.int .i64 b := by rw [h]
theorem ylen_step {y : Nat} (h : 1970 ≤ y) : ydays (y + 1 - 1970) = ydays (y - 1970) + ylen y := by
  rw [show y + 1 - 1970 = (y - 1970) + 1 by omega]
  show ydays (y - 1970) + ylen (1970 + (y - 1970)) = _
  rw [show 1970 + (y - 1970) = y by omega]
theorem year_at {N E r n y : Nat} (h : N + 134774 = 146097 * E + r) (h1 : ahd n ≤ r) (h2 : r < ahd (n + 1)) (hy : y = 1601 + 400 * E + n) :
    1970 ≤ y ∧ ydays (y - 1970) + (r - ahd n) = N ∧ r - ahd n < ylen y := by
  have e1 := ahd_era E n
  have e2 := ahd_era E (n + 1)
  have h3 : 1970 ≤ y := by
    rcases Nat.lt_or_ge y 1970 with c | c
    · have : ahd (400 * E + (n + 1)) ≤ 134774 := by unfold ahd; omega
      omega
    · exact c
  have a := ydays_ahd h3
  have b := ydays_ahd (y := y + 1) (by omega)
  rw [ylen_step h3] at b
  rw [show y - 1601 = 400 * E + n by omega] at a
  rw [show y + 1 - 1601 = 400 * E + (n + 1) by omega] at b
  omega
theorem first_at {y m : Nat} (h : 1970 ≤ y) : (146097 : Int) * ((y - 1601) / 400 : Nat) + (((ahd ((y - 1601) % 400) : Nat) : Int) - 134774 + (mdays y (m - 1) : Nat)) = (num y m 1 : Nat) := by
  have a := ydays_ahd h
  have e := ahd_era ((y - 1601) / 400) ((y - 1601) % 400)
  rw [Nat.div_add_mod] at e
  unfold num
  omega
theorem mdays_step {y m : Nat} (h : 1 ≤ m) : mdays y m = mdays y (m - 1) + mlen y m := by
  obtain ⟨k, rfl⟩ : ∃ k, m = k + 1 := ⟨m - 1, by omega⟩
  rfl
theorem ylen_le (y : Nat) : ylen y ≤ 366 := by have := ylen_two y; omega
theorem mdays_le {y m : Nat} (h : m ≤ 12) : mdays y m ≤ 366 := by
  have h1 := mdays_mono y m 12 h
  rw [mdays_year] at h1
  have := ylen_le y
  omega
theorem mlen_le (y m : Nat) : mlen y m ≤ 31 := by
  unfold mlen
  repeat' split
  all_goals omega
theorem not_last {y m l D : Nat} (h1 : 1 ≤ m) (h2 : m ≤ 12) (h : mdays y (m - 1) + l = D) (hD : D < ylen y) (hl : mlen y m ≤ l) : m < 12 := by
  rcases Nat.lt_or_ge m 12 with c | c
  · exact c
  · obtain rfl : m = 12 := by omega
    have a := mdays_year y
    rw [mdays_step (by omega)] at a
    omega
theorem date_at {y m l D N : Nat} (hy : 1970 ≤ y) (h1 : 1 ≤ m) (h2 : m ≤ 12) (h : mdays y (m - 1) + l = D) (hl : l < mlen y m) (hN : ydays (y - 1970) + D = N) : dateOf N = (y, m, l + 1) :=
  date_is ⟨hy, h1, h2, by omega, by omega⟩ (by unfold num; omega)

end Go.Proofs.Ytclljogbingjiaa
