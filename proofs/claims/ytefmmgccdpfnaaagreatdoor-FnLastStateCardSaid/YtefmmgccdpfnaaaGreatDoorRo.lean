import Derived.Test.YtefmmgccdpfnaaaGreatDoorMYi
import Derived.RangeFuncIn
import Derived.RangeFuncRecord
import Derived.RangeFuncWrites
/- Ranges over functions whose iterator writes boxes that it has laid itself. -/
namespace Go.Proofs.YtefmmgccdpfnaaaGreatDoor
open Go.RowKit Go.Shelf
open Ff
set_option linter.unusedVariables false

/-- What is said stands, whatever happens at or above a block. -/
def Above {β : Type} (B : Nat) (J : β → World → Prop) : Prop := ∀ s W W' row, J s W → W.grownBy W' row → (∀ r, row = some r → B ≤ r) → J s W'
theorem Above.grow {β : Type} {B : Nat} {J : β → World → Prop} (h : Above B J) {s : β} {W W' : World} (hs : J s W) (hb : Below W.heap.size W W') : J s W' := h s W W' none hs (grown_none hb) (fun r e => by cases e)
theorem Above.put {β : Type} {B : Nat} {J : β → World → Prop} (h : Above B J) {s : β} {W : World} {l : Nat} (o' : Obj) (hs : J s W) (hl : B ≤ l) : J s (W.putObj l o') := h s W _ (some l) hs (grownBy_putObj' W l o') (fun r e => by cases e; exact hl)
theorem Above.set {β : Type} {B : Nat} {J : β → World → Prop} (h : Above B J) {s : β} {W : World} {b : Nat} (v : Value) (hs : J s W) (hl : B ≤ b) : J s (W.setCell ⟨b, 0, none⟩ v) := h s W _ (some b) hs (grownBy_setCell' W b v) (fun r e => by cases e; exact hl)
/-- An iterator that gives the things of L, one after the other, and may write what it lays itself. T: the blocks that a round may write. -/
def SeqOwns {α : Type} (F : Fence) (n : Nat) (P : Program) (g : Nat) (lb : Array Value) (encs : α → Array Value) (T : Nat → Prop) (L : List α) (w0 : World) : Prop :=
  ∀ (l : Nat) (J Jx : List α → World → Prop) (W : World), Below w0.heap.size w0 W → Above W.heap.size J → Above W.heap.size Jx →
    (∀ pre x W1, J pre W1 → pre ++ [x] <+: L → YieldAt F (n - 1) P l (encs x) W1 fun e W' =>
      (e = .returned (.bool true) ∧ J (pre ++ [x]) W' ∧ KeepT (fun _ j => T j) W1 W') ∨ (e = .returned (.bool false) ∧ Jx (pre ++ [x]) W')) →
    J [] W → CallsIn F n P g (#[.func (.yield l) #[] #[]] ++ lb) W fun e W' => (∃ v, e = .returned v) ∧ (J L W' ∨ ∃ pre, pre <+: L ∧ Jx pre W')
theorem keepT_put {T : Nat → Prop} {W : World} {l : Nat} {o : Obj} (o' : Obj) (h : W.heap[l]? = some o) (ho : o.isCells = false) : KeepT (fun _ j => T j) W (W.putObj l o') := by
  have hg := grownBy_putObj' W l o'
  refine ⟨hg.size, fun j oj hj hc _ => ?_, fun j hj => .inl hj⟩
  refine (hg.block j (Array.getElem?_eq_some_iff.1 hj).1 (fun e => ?_)).trans hj
  injection e with e
  subst e
  rw [hj] at h
  cases h
  rw [hc] at ho
  cases ho
theorem keepT_grow {T : Nat → Prop} {W W' : World} (hb : Below W.heap.size W W') : KeepT (fun _ j => T j) W W' :=
  ⟨hb.size, fun j o hj _ _ => (hb.block j (Array.getElem?_eq_some_iff.1 hj).1).trans hj, fun j hj => .inl hj⟩
theorem put_lt {W : World} {c l : Nat} {o : Obj} (h : c < W.heap.size) : c < (W.putObj l o).heap.size := by
  have := (grownBy_putObj' W l o).size
  omega
/-- How a round's body may be left. -/
def RoundEnd {α : Type} (B : Nat) (T : Nat → Prop) (I Ix : List α → World → Prop) (xs : List α) (W : World) : Exit → Act → World → Prop
  | .normal, _, W' => KeepsFrom B W W' ∧ KeepT (fun _ j => T j) W W' ∧ I xs W'
  | .ret, _, W' => KeepsFrom B W W' ∧ Ix xs W'
  | _, _, _ => False
variable {F : Fence} {n : Nat} {P : Program}
set_option maxHeartbeats 1000000 in
/-- One round of a loop whose record is l, out of the walks of its assignments and of its body. -/
theorem round_owns {α : Type} {fn : FuncId} {tmps : Array Value} {ps : Array Tmp} {assign body : Code} {m l B : Nat} {rec : LoopState → Option Code → Loop} (hrec : rec = fun st pe => { state := st, pending := pe, fn, tmps, params := ps, assign, body, defers := B }) (hB : B < l) (hfn : F.fn fn)
    {encs : α → Array Value} (hps : ∀ x, (encs x).size = ps.size) {T : Nat → Prop} {I Ix : List α → World → Prop} (hI : Above B I) (hIx : Above B Ix) {Asg : α → World → Act → World → Prop} (hA : ∀ x W a W1, Asg x W a W1 → Below W.heap.size W W1) {pre : List α} {x : α} {W : World} (hi : I pre W)
    (hl : W.heap[l]? = some (.loop (rec .ready none))) (hk : W.heap[B]? = some (.deferred (some [])))
    (hassign : ∀ K : Act → World → Prop, (∀ a W1, Asg x W a W1 → K a W1) → assign.wpIn (F.inRound l) m P (Exit.then K (fun _ _ _ => False)) { tmps := (ps.zip (encs x)).foldl (fun t (p, v) => t.setIfInBounds p v) tmps, defers := [] } W)
    (hbody : ∀ a W1 W2, Asg x W a W1 → W1.grownBy W2 (some l) → I pre W2 → body.wpIn (F.inRound l) m P (RoundEnd B T I Ix (pre ++ [x]) W2) a W2) :
    YieldAt F m P l (encs x) W fun e W' =>
      (e = .returned (.bool true) ∧ (I (pre ++ [x]) W' ∧ W'.heap[l]? = some (.loop (rec .ready none)) ∧ W'.heap[B]? = some (.deferred (some []))) ∧ KeepT (fun _ j => T j) W W') ∨
      (e = .returned (.bool false) ∧ Ix (pre ++ [x]) W' ∧ W'.heap[l]? = some (.loop (rec .done (some .ret))) ∧ W'.heap[B]? = some (.deferred (some []))) := by
  have hy := run_yield (P := P) (args := encs x) hl (by rw [hrec]; exact hps x)
  rw [hrec] at hy
  refine ⟨fn, _, assign, body, hy, roundIn_of_wpIn hfn (hassign _ fun a W1 hasg => ?_)⟩
  have hb1 := hA _ _ _ _ hasg
  have hl1 := (hb1.block l (Array.getElem?_eq_some_iff.1 hl).1).trans hl
  have hk1 := (hb1.block B (Array.getElem?_eq_some_iff.1 hk).1).trans hk
  have hlt1 := (Array.getElem?_eq_some_iff.1 hl1).1
  refine ⟨_, run_beginRound hl1 (by rw [hrec]), ?_⟩
  have hl2 : (W1.putObj l (.loop { rec .ready none with state := .busy })).heap[l]? = some (.loop { rec .ready none with state := .busy }) := World.putObj_heap_same hlt1
  have hk2 : (W1.putObj l (.loop { rec .ready none with state := .busy })).heap[B]? = some (.deferred (some [])) := (World.putObj_heap_other (by omega)).trans hk1
  have kt1 : KeepT (fun _ j => T j) W (W1.putObj l (.loop { rec .ready none with state := .busy })) := (keepT_grow hb1).trans (keepT_put _ hl1 rfl)
  have hg2 : W1.grownBy (W1.putObj l (.loop { rec .ready none with state := .busy })) (some l) := grownBy_putObj' W1 l _
  have hi2 : I pre (W1.putObj l (.loop { rec .ready none with state := .busy })) := hI.put _ (hI.grow hi hb1) (by omega)
  generalize W1.putObj l (.loop { rec .ready none with state := .busy }) = W2 at *
  refine wpIn_mono (hbody a W1 W2 hasg hg2 hi2) ?_
  rintro e a3 W3 hp
  cases e with
  | normal =>
    obtain ⟨hk3, hkp3, hi3⟩ := hp
    have hl3 := hk3.same l _ (by omega) hl2 rfl
    have hd3 := hk3.same B _ (Nat.le_refl _) hk2 rfl
    have hr := run_endRound (P := P) none hl3
    rw [hrec] at hr hl3 ⊢
    exact ⟨_, _, hr, .inl ⟨rfl, ⟨hI.put _ hi3 (by omega), World.putObj_heap_same (Array.getElem?_eq_some_iff.1 hl3).1, (World.putObj_heap_other (by omega)).trans hd3⟩, (kt1.trans hkp3).trans (keepT_put _ hl3 rfl)⟩⟩
  | ret =>
    obtain ⟨hk3, hi3⟩ := hp
    have hl3 := hk3.same l _ (by omega) hl2 rfl
    have hd3 := hk3.same B _ (Nat.le_refl _) hk2 rfl
    have hr := run_endRound (P := P) (some .ret) hl3
    rw [hrec] at hr hl3 ⊢
    exact ⟨_, _, hr, .inr ⟨rfl, hIx.put _ hi3 (by omega), World.putObj_heap_same (Array.getElem?_eq_some_iff.1 hl3).1, (World.putObj_heap_other (by omega)).trans hd3⟩⟩
  | exit id => exact hp.elim
  | goto t => exact hp.elim
  | panic ch => exact hp.elim
  | outgrown => exact hp.elim
set_option maxHeartbeats 1000000 in
/-- The statement, at an outermost loop. -/
theorem range_owns {α : Type} {g : Operand} {ps : Array Tmp} {assign body : Code} {Q : Exit → Act → World → Prop} {a : Act} {w : World}
    (hro : F.round = none) (h1 : 1 ≤ n) {gf : Nat} {lb : Array Value} (hg : a.eval g = .func (.func gf) #[] lb) (hFg : F.fn gf) (eg : ∀ args w, (callFunc gf args).run P w = .ok (.enter gf args) w)
    {encs : α → Array Value} {T : Nat → Prop} {L : List α} (hseq : SeqOwns F (n - 1) P gf lb encs T L w) (hps : ∀ x, (encs x).size = ps.size)
    (I Ix : List α → World → Prop) (hI : Above w.heap.size I) (hIx : Above w.heap.size Ix) (h0 : I [] w) (Asg : α → World → Act → World → Prop) (hA : ∀ x W a W1, Asg x W a W1 → Below W.heap.size W W1)
    (hassign : ∀ (x : α) (W : World) (K : Act → World → Prop), (∀ a W1, Asg x W a W1 → K a W1) → assign.wpIn (F.inRound (w.heap.size + 1)) (n - 1 - 1) P (Exit.then K (fun _ _ _ => False)) { tmps := (ps.zip (encs x)).foldl (fun t (p, v) => t.setIfInBounds p v) a.tmps, defers := [] } W)
    (hbody : ∀ (pre : List α) (x : α) (W : World) (a1 : Act) (W1 W2 : World), I pre W → pre ++ [x] <+: L → w.heap.size + 2 ≤ W.heap.size → Asg x W a1 W1 → W1.grownBy W2 (some (w.heap.size + 1)) → I pre W2 → body.wpIn (F.inRound (w.heap.size + 1)) (n - 1 - 1) P (RoundEnd w.heap.size T I Ix (pre ++ [x]) W2) a1 W2)
    (hdone : ∀ (W : World), w.heap.size < W.heap.size → I L W → W.heap[w.heap.size]? = some (.deferred (some [])) → Q .normal { a with defers := { target := .collected w.heap.size, args := #[] } :: a.defers } W)
    (hstop : ∀ (pre : List α) (W : World), w.heap.size < W.heap.size → pre <+: L → Ix pre W → W.heap[w.heap.size]? = some (.deferred (some [])) → Code.ret.wpIn F n P Q { a with defers := { target := .collected w.heap.size, args := #[] } :: a.defers } W) :
    (Code.rangeFunc g ps assign body).wpIn F n P Q a w := by
  refine wpIn_rangeFunc ?_
  intro fn hfn
  rw [hro]
  obtain ⟨rec, hrec⟩ : ∃ rec : LoopState → Option Code → Loop, rec = fun st pe => { state := st, pending := pe, fn, tmps := a.tmps, params := ps, assign, body, defers := w.heap.size } := ⟨_, rfl⟩
  have hent := run_enterLoop_outer (P := P) (w := w) fn a.tmps ps assign body
  have hL1 : ((w.alloc (.deferred (some []))).alloc (.loop (rec .ready none))).heap[w.heap.size + 1]? = some (.loop (rec .ready none)) := by
    have := World.alloc_heap_new (w.alloc (.deferred (some []))) (.loop (rec .ready none))
    rwa [World.size_alloc] at this
  have hK1 : ((w.alloc (.deferred (some []))).alloc (.loop (rec .ready none))).heap[w.heap.size]? = some (.deferred (some [])) := (Below.heap_alloc _ _ _ (by simp)).trans (World.alloc_heap_new w _)
  have hb1 : Below w.heap.size w ((w.alloc (.deferred (some []))).alloc (.loop (rec .ready none))) := ((Below.refl _ w).alloc (Nat.le_refl _) _).alloc (by simp) _
  have hsz : ((w.alloc (.deferred (some []))).alloc (.loop (rec .ready none))).heap.size = w.heap.size + 2 := by simp
  have hent' : (Instr.enterLoop fn a.tmps ps assign body none).run P w = .ok (w.heap.size + 1, [{ target := .collected w.heap.size, args := #[] }]) ((w.alloc (.deferred (some []))).alloc (.loop (rec .ready none))) := by rw [hrec]; exact hent
  clear hent
  generalize (w.alloc (.deferred (some []))).alloc (.loop (rec .ready none)) = W1 at *
  refine ⟨w.heap.size + 1, [{ target := .collected w.heap.size, args := #[] }], W1, { target := .fn (.func gf) lb, args := #[.func (.yield (w.heap.size + 1)) #[] #[]] }, W1, gf, #[.func (.yield (w.heap.size + 1)) #[] #[]] ++ lb, W1, hent', ?_, ?_, ?_, fun _ => h1, ?_⟩
  · simp only [resolve, hg]
    simp [go_sem]
  · intro f' hf'
    simp [Target.leads] at hf'
    subst hf'
    exact hFg
  · simp [invoke, go_sem, eg]
  · have hJ : ∀ (X : List α → World → Prop) (o : Loop), Above w.heap.size X → Above W1.heap.size (fun s W => X s W ∧ W.heap[w.heap.size + 1]? = some (.loop o) ∧ W.heap[w.heap.size]? = some (.deferred (some []))) := fun X o hX s A B row hs hgr hr =>
      ⟨hX s A B row hs.1 hgr (fun r e => by have := hr r e; omega), (hgr.block _ (Array.getElem?_eq_some_iff.1 hs.2.1).1 (fun e => by have := hr _ e.symm; omega)).trans hs.2.1, (hgr.block _ (Array.getElem?_eq_some_iff.1 hs.2.2).1 (fun e => by have := hr _ e.symm; omega)).trans hs.2.2⟩
    refine (hseq (w.heap.size + 1) (fun s W => I s W ∧ W.heap[w.heap.size + 1]? = some (.loop (rec .ready none)) ∧ W.heap[w.heap.size]? = some (.deferred (some []))) (fun s W => Ix s W ∧ W.heap[w.heap.size + 1]? = some (.loop (rec .done (some .ret))) ∧ W.heap[w.heap.size]? = some (.deferred (some []))) W1 hb1 (hJ I _ hI) (hJ Ix _ hIx) ?_ ⟨hI.grow h0 hb1, hL1, hK1⟩).mono ?_
    · rintro pre x W ⟨hi, hl, hk⟩ hpre
      exact (round_owns hrec (Nat.lt_succ_self _) hfn hps hI hIx hA hi hl hk (hassign x W) (fun a1 Wa Wb hasg hgr hib => hbody pre x W a1 Wa Wb hi hpre (Array.getElem?_eq_some_iff.1 hl).1 hasg hgr hib))
    · rintro e W2 ⟨⟨v, rfl⟩, (⟨hi, hl, hk⟩ | ⟨pre, hpre, hi, hl, hk⟩)⟩
      · have hr := run_endLoop (P := P) hl (by rw [hrec]; simp)
        rw [hrec] at hr
        refine ⟨none, _, hr, hdone _ ?_ (hI.put _ hi (by omega)) ((World.putObj_heap_other (by omega)).trans hk)⟩
        exact put_lt (Array.getElem?_eq_some_iff.1 hk).1
      · have hr := run_endLoop (P := P) hl (by rw [hrec]; simp)
        rw [hrec] at hr
        refine ⟨some .ret, _, hr, hstop pre _ ?_ hpre (hIx.put _ hi (by omega)) ((World.putObj_heap_other (by omega)).trans hk)⟩
        exact put_lt (Array.getElem?_eq_some_iff.1 hk).1
end Go.Proofs.YtefmmgccdpfnaaaGreatDoor
