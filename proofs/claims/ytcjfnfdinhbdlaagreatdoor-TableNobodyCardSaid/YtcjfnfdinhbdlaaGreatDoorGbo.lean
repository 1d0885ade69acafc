import Derived.Test.YtcjfnfdinhbdlaaGreatDoorGbl
import Derived.Test.YtcjfnfdinhbdlaaGreatDoorGbk
import Derived.Test.YtcjfnfdinhbdlaaGreatDoorGbn
import Derived.Test.YtcjfnfdinhbdlaaGreatDoorGbj
namespace Go.Proofs.YtcjfnfdinhbdlaaGreatDoor
set_option maxRecDepth 100000
open Go.ChangeShapes Go.WideShapes Go.ChangeAt Go.RowKit Go.PlainAid Go.Shelf
open Go.Sort (grow)
section
variable {w0 : World} {pp n c : Nat} {V : Int → ByteArray}
theorem wpIn_rounds2P {α β : Type} {X0 : List (Nat × Obj)} {P : List β → Prop} {key : α → β} {encs : α → Array Value} {Fit : List (Nat × Obj) → α → Prop} {g : Operand} {ps : Array Tmp} {assign body : Code} {Q : Exit → Act → World → Prop} {a : Act} {w : World} {m : Nat}
    (X Rc : List (Nat × Obj)) {gf : Nat} {lb : Array Value}
    (hg : a.eval g = .func (.func gf) #[] lb) (eg : ∀ args w, (callFunc gf args).run Tryz.prog w = .ok (.enter gf args) w)
    (hps : ∀ x, (encs x).size = ps.size)
    (H : PV w0 pp n c V (X ++ Rc) w) (hX : GB w.heap.size X) (hR : GB w.heap.size Rc)
    (K : List β → List (Nat × Obj) → Prop) (Kx : Code → List β → List (Nat × Obj) → Prop) (h0 : K [] Rc ∧ Ap X Rc)
    (S Sp : List β → Prop)
    (hseq : ∀ (K' Kx' : List β → List (Nat × Obj) → Prop) (R' : List (Nat × Obj)) (W : World), RoundsGP key encs Fit w0 pp n c V w.heap.size X0 P K' Kx' → K' [] R' ∧ Ap X R' → PV w0 pp n c V (X ++ R') W → (∀ pre R', K' pre R' → ∀ b, b = w.heap.size ∨ b = w.heap.size + 1 → ∃ o, (b, o) ∈ R') →
      CallsIn Fence.wide (m - 1) Tryz.prog gf (#[.func (.yield (w.heap.size + 1)) #[] #[]] ++ lb) W fun e W' => (∃ v, e = .returned v) ∧ ((∃ xs R'', S xs ∧ K' xs R'' ∧ PV w0 pp n c V (X ++ R'') W') ∨ (∃ xs R'', Sp xs ∧ Kx' xs R'' ∧ PV w0 pp n c V (X ++ R'') W')))
    (Ax : List (Nat × Obj) → α → Act → Prop)
    (hassign : ∀ (l : Nat) (x : α) (W : World) (X' : List (Nat × Obj)) (Kc : Act → World → Prop), Fit X' x → (∀ y ∈ X', W.heap[y.1]? = some y.2) → (∀ a' W' X1, Adds W W' X1 → Ax X1 x a' → Kc a' W') →
      assign.wpIn (Fence.wide.inRound l) 7 Tryz.prog (Exit.then Kc (fun _ _ _ => False)) { tmps := (ps.zip (encs x)).foldl (fun t (p, v) => t.setIfInBounds p v) a.tmps, defers := [] } W)
    (hbody : ∀ (l : Nat) (r : Loop) (pre : List β) (x : α) (X' X1 R' : List (Nat × Obj)) (a' : Act) (W : World), P (pre ++ [key x]) → (∀ y ∈ X0, y ∈ X') → K pre R' ∧ Ap (X1 ++ X') R' → Fit X' x → Ax X1 x a' → GB w.heap.size X' → GB w.heap.size R' →
      PV w0 pp n c V ((w.heap.size + 1, .loop r) :: (w.heap.size, .deferred (some [])) :: (X1 ++ (X' ++ R'))) W → body.wpIn (Fence.wide.inRound l) 7 Tryz.prog (BodyPost w0 pp n c V w.heap.size r K Kx X' (pre ++ [key x])) a' W)
    (hdone : ∀ (xs : List β) (R' : List (Nat × Obj)) (W : World), S xs → K xs R' → PV w0 pp n c V ((w.heap.size, .deferred (some [])) :: (X ++ R')) W → (∀ x ∈ X ++ R', x.1 ≠ w.heap.size) → Q .normal { a with defers := { target := .collected w.heap.size, args := #[] } :: a.defers } W)
    (hstop : ∀ (cd : Code) (xs : List β) (R' : List (Nat × Obj)) (W : World), Sp xs → Kx cd xs R' → PV w0 pp n c V ((w.heap.size, .deferred (some [])) :: (X ++ R')) W → (∀ x ∈ X ++ R', x.1 ≠ w.heap.size) → cd.wpIn Fence.wide m Tryz.prog Q { a with defers := { target := .collected w.heap.size, args := #[] } :: a.defers } W) :
    (Code.rangeFunc g ps assign body).wpIn Fence.wide m Tryz.prog Q a w := by
  refine wpIn_rangeFunc ?_
  intro fn hfn
  obtain ⟨rec, hrec⟩ : ∃ rec : LoopState → Option Code → Loop, rec = fun st pe => { state := st, pending := pe, fn, tmps := a.tmps, params := ps, assign, body, defers := w.heap.size } := ⟨_, rfl⟩
  obtain ⟨W1, hW1⟩ : ∃ W1, (w.alloc (.deferred (some []))).alloc (.loop (rec .ready none)) = W1 := ⟨_, rfl⟩
  have H1 := (H.push (.deferred (some []))).push (.loop (rec .ready none))
  rw [World.size_alloc, hW1] at H1
  have hlt0 := H.below.size
  -- any order of the blocks
  have front : ∀ {o : Obj} {X' R' : List (Nat × Obj)} {W : World}, PV w0 pp n c V (X' ++ ((w.heap.size + 1, o) :: (w.heap.size, .deferred (some [])) :: R')) W → PV w0 pp n c V ((w.heap.size + 1, o) :: (w.heap.size, .deferred (some [])) :: (X' ++ R')) W := fun h => h.sub _ fun y hy => by
    simp only [List.mem_cons, List.mem_append] at hy ⊢
    rcases hy with h | h | h | h
    · exact .inr (.inl h)
    · exact .inr (.inr (.inl h))
    · exact .inl h
    · exact .inr (.inr (.inr h))
  have back : ∀ {o : Obj} {X' R' : List (Nat × Obj)} {W : World}, PV w0 pp n c V ((w.heap.size + 1, o) :: (w.heap.size, .deferred (some [])) :: (X' ++ R')) W → PV w0 pp n c V (X' ++ ((w.heap.size + 1, o) :: (w.heap.size, .deferred (some [])) :: R')) W := fun h => h.sub _ fun y hy => by
    simp only [List.mem_cons, List.mem_append] at hy ⊢
    rcases hy with h | h | h | h
    · exact .inr (.inr (.inl h))
    · exact .inl h
    · exact .inr (.inl h)
    · exact .inr (.inr (.inr h))
  -- the loop's record is turned
  have turn : ∀ {r r' : Loop} {Y : List (Nat × Obj)} {W : World}, PV w0 pp n c V ((w.heap.size + 1, .loop r) :: (w.heap.size, .deferred (some [])) :: Y) W → GB w.heap.size Y → PV w0 pp n c V ((w.heap.size + 1, .loop r') :: (w.heap.size, .deferred (some [])) :: Y) (W.putObj (w.heap.size + 1) (.loop r')) := fun {r r' Y W} h hG => by
    refine h.obj (fun x hx => ?_) rfl rfl (by omega) _
    rcases List.mem_cons.1 hx with rfl | hx
    · show w.heap.size ≠ w.heap.size + 1
      omega
    · exact (h.apart rfl rfl hG).1 x hx
  have ends : ∀ {r : Loop} {R' : List (Nat × Obj)} {W : World}, PV w0 pp n c V ((w.heap.size + 1, .loop r) :: (w.heap.size, .deferred (some [])) :: (X ++ R')) W → GB w.heap.size R' → ∀ r', PV w0 pp n c V ((w.heap.size, .deferred (some [])) :: (X ++ R')) (W.putObj (w.heap.size + 1) (.loop r')) ∧ ∀ x ∈ X ++ R', x.1 ≠ w.heap.size := fun {r R' W} h hG r' =>
    ⟨(turn h (hX.app hG)).drop, (h.apart rfl rfl (hX.app hG)).2⟩
  have apX : ∀ {o o2 : Obj}, Ap X Rc → Ap X ((w.heap.size + 1, o) :: (w.heap.size, o2) :: Rc) := fun {o o2} h z hz y hy => by
    have := H.lt (x := z) (List.mem_append_left _ hz)
    rcases List.mem_cons.1 hy with rfl | hy
    · simp only; omega
    · rcases List.mem_cons.1 hy with rfl | hy
      · simp only; omega
      · exact h z hz y hy
  refine ⟨w.heap.size + 1, [{ target := .collected w.heap.size, args := #[] }], W1, { target := .fn (.func gf) lb, args := #[.func (.yield (w.heap.size + 1)) #[] #[]] }, W1, gf,
    #[.func (.yield (w.heap.size + 1)) #[] #[]] ++ lb, W1, ?_, ?_, ?_, ?_, (fun h => by cases h), ?_⟩
  · rw [← hW1, hrec]; exact run_enterLoop_outer _ _ _ _ _
  · simp only [resolve, hg]
    simp [go_sem]
  · intro f' _
    trivial
  · simp [invoke, go_sem, eg]
  · refine (hseq
      (fun pre R' => ∃ R'', R' = (w.heap.size + 1, .loop (rec .ready none)) :: (w.heap.size, .deferred (some [])) :: R'' ∧ K pre R'' ∧ GB w.heap.size R'')
      (fun pre R' => ∃ cd R'', R' = (w.heap.size + 1, .loop (rec .done (some cd))) :: (w.heap.size, .deferred (some [])) :: R'' ∧ Kx cd pre R'' ∧ GB w.heap.size R'')
      ((w.heap.size + 1, .loop (rec .ready none)) :: (w.heap.size, .deferred (some [])) :: Rc) W1 ?_ ⟨⟨Rc, rfl, h0.1, hR⟩, apX h0.2⟩ (back H1) (by
        rintro pre R' ⟨R'', rfl, _⟩ b (rfl | rfl)
        · exact ⟨_, List.mem_cons_of_mem _ List.mem_cons_self⟩
        · exact ⟨_, List.mem_cons_self⟩)).mono ?_
    · rintro pre X' R' x W hPx hXx ⟨⟨Ri, rfl, hK, hGi⟩, hAp⟩ hW hFx hGX
      have hW2 := front hW
      have hApR : Ap X' Ri := fun z hz y hy => hAp z hz y (List.mem_cons_of_mem _ (List.mem_cons_of_mem _ hy))
      have apB : ∀ {o o2 : Obj} {R' : List (Nat × Obj)}, Ap X' R' → Ap X' ((w.heap.size + 1, o) :: (w.heap.size, o2) :: R') := fun {o o2 R'} h z hz y hy => by
        rcases List.mem_cons.1 hy with rfl | hy
        · exact hAp z hz (w.heap.size + 1, .loop (rec .ready none)) List.mem_cons_self
        · rcases List.mem_cons.1 hy with rfl | hy
          · exact hAp z hz (w.heap.size, .deferred (some [])) (List.mem_cons_of_mem _ List.mem_cons_self)
          · exact h z hz y hy
      have hl := hW2.mem List.mem_cons_self
      have hy := run_yield (P := Tryz.prog) (args := encs x) hl (by rw [hrec]; exact hps x)
      rw [hrec] at hy
      refine ⟨fn, _, assign, body, hy, roundIn_of_wpIn hfn (hassign _ x W X' _ hFx (fun y hy => hW.mem (List.mem_append_left _ hy)) ?_)⟩
      clear hy
      intro a' Wa X1 hor hax
      obtain ⟨hXc, hWa, hA1⟩ : GB w.heap.size X1 ∧ PV w0 pp n c V ((w.heap.size + 1, .loop (rec .ready none)) :: (w.heap.size, .deferred (some [])) :: (X1 ++ (X' ++ Ri))) Wa ∧ Ap (X1 ++ X') Ri := by
        rcases hor with ⟨rfl, rfl⟩ | ⟨o, ho, rfl, rfl⟩
        · exact ⟨GB.nil _, hW2, hApR⟩
        · refine ⟨(GB.nil _).cons ho, (hW2.push o).sub _ fun y hy => ?_, hApR.cons fun y hy e => ?_⟩
          · simp only [List.mem_cons, List.mem_append, List.not_mem_nil, or_false] at hy ⊢
            rcases hy with h | h | h | h | h
            · exact .inr (.inl h)
            · exact .inr (.inr (.inl h))
            · exact .inl h
            · exact .inr (.inr (.inr (.inl h)))
            · exact .inr (.inr (.inr (.inr h)))
          · have := hW.lt (x := y) (List.mem_append_right _ (List.mem_cons_of_mem _ (List.mem_cons_of_mem _ hy)))
            simp only at e
            omega
      have hlW := hWa.mem List.mem_cons_self
      refine ⟨_, run_beginRound hlW (by rw [hrec]), ?_⟩
      refine wpIn_mono (hbody _ { rec .ready none with state := .busy } pre x X' X1 Ri a' _ hPx hXx ⟨hK, hA1⟩ hFx hax hGX hGi (turn hWa (hXc.app (hGX.app hGi)))) ?_
      have fin : ∀ (jump : Option Code) (R' : List (Nat × Obj)) (W3 : World), GB w.heap.size R' → PV w0 pp n c V ((w.heap.size + 1, .loop { rec .ready none with state := .busy }) :: (w.heap.size, .deferred (some [])) :: (X' ++ R')) W3 →
          (Instr.endRound (w.heap.size + 1) jump).run Tryz.prog W3 = .ok (.bool jump.isNone) (W3.putObj (w.heap.size + 1) (.loop (rec (if jump.isNone then .ready else .done) jump))) ∧
          PV w0 pp n c V (X' ++ ((w.heap.size + 1, .loop (rec (if jump.isNone then .ready else .done) jump)) :: (w.heap.size, .deferred (some [])) :: R')) (W3.putObj (w.heap.size + 1) (.loop (rec (if jump.isNone then .ready else .done) jump))) := fun jump R' W3 hG3 h3 => by
        have := run_endRound (P := Tryz.prog) jump (h3.mem List.mem_cons_self)
        rw [hrec] at this h3 ⊢
        exact ⟨this, back (turn h3 (hGX.app hG3))⟩
      rintro e a3 W3 hp
      cases e with
      | normal =>
        obtain ⟨R', hk3, hg3, h3⟩ := hp
        obtain ⟨hr, h4⟩ := fin none R' W3 hg3 h3
        exact ⟨_, _, hr, .inl ⟨rfl, _, ⟨⟨R', rfl, hk3.1, hg3⟩, apB hk3.2⟩, h4⟩⟩
      | ret =>
        obtain ⟨R', hk3, hg3, h3⟩ := hp
        obtain ⟨hr, h4⟩ := fin (some .ret) R' W3 hg3 h3
        exact ⟨_, _, hr, .inr ⟨rfl, _, ⟨⟨.ret, R', rfl, hk3.1, hg3⟩, apB hk3.2⟩, h4⟩⟩
      | exit id =>
        obtain ⟨R', hk3, hg3, h3⟩ := hp
        obtain ⟨hr, h4⟩ := fin (some (.exit id)) R' W3 hg3 h3
        exact ⟨_, _, hr, .inr ⟨rfl, _, ⟨⟨.exit id, R', rfl, hk3.1, hg3⟩, apB hk3.2⟩, h4⟩⟩
      | goto t =>
        obtain ⟨R', hk3, hg3, h3⟩ := hp
        obtain ⟨hr, h4⟩ := fin (some (.goto t)) R' W3 hg3 h3
        exact ⟨_, _, hr, .inr ⟨rfl, _, ⟨⟨.goto t, R', rfl, hk3.1, hg3⟩, apB hk3.2⟩, h4⟩⟩
      | panic ch => exact hp.elim
      | outgrown => exact hp.elim
    · rintro e W2 ⟨⟨v, rfl⟩, (⟨xs, R', hS, ⟨R'', rfl, hK, hG2⟩, h2⟩ | ⟨xs, R', hS, ⟨cd, R'', rfl, hK, hG2⟩, h2⟩)⟩
      · have h3 := front h2
        have hend := run_endLoop (P := Tryz.prog) (h3.mem List.mem_cons_self) (by rw [hrec]; simp)
        rw [hrec] at hend
        obtain ⟨h4, h5⟩ := ends h3 hG2 { state := .exhausted, pending := none, fn, tmps := a.tmps, params := ps, assign, body, defers := w.heap.size }
        exact ⟨none, _, hend, hdone xs R'' _ hS hK h4 h5⟩
      · have h3 := front h2
        have hend := run_endLoop (P := Tryz.prog) (h3.mem List.mem_cons_self) (by rw [hrec]; simp)
        rw [hrec] at hend
        obtain ⟨h4, h5⟩ := ends h3 hG2 { state := .exhausted, pending := some cd, fn, tmps := a.tmps, params := ps, assign, body, defers := w.heap.size }
        exact ⟨some cd, _, hend, hstop cd xs R'' _ hS hK h4 h5⟩
end
attribute [local go_sem ↓ high] store_n
attribute [local go_sem] Oper.semAt_some
attribute [local go_sem ↓ high] store_n
attribute [local go_sem] Oper.semAt_some
section
variable {w0 : World} {pp n c tb : Nat} {V : Int → ByteArray} {i : Int}
set_option maxHeartbeats 4000000 in
theorem from1_yP {X0 : List (Nat × Obj)} {P : List Pr → Prop} (B : Nat) {K Kx : List Pr → List (Nat × Obj) → Prop} (hY : RoundsGP id encP FitR w0 pp n c V B X0 P K Kx) (hKB : ∀ pre Rc, K pre Rc → ∀ b, b = B ∨ b = B + 1 → ∃ o, (b, o) ∈ Rc) (hn : 1 < n) (hi : 0 ≤ i ∧ i < 16) (from_ : ByteArray) (bt bf : Nat) (X Rc : List (Nat × Obj)) (W : World)
    (hK : K [] Rc ∧ Ap X ((bf, boxS from_) :: Rc) ∧ Ap [(bf, boxS from_)] Rc) (H : PV w0 pp n c V (X ++ ((bf, boxS from_) :: Rc)) W) (hT : (tb, treeO pp i) ∈ X) (h1 : (bt, boxT tb) ∈ X) (hP : ∀ q, q <+: fromL from_ (visA V n i from_) → P q) (hX0 : ∀ y ∈ X0, y ∈ X) :
    CallsIn Fence.wide 9 Tryz.prog 155 #[.func (.yield (B + 1)) #[] #[], .pointer (some ⟨bt, 0, none⟩), .pointer (some ⟨bf, 0, none⟩)] W (FromPost w0 pp n c V K Kx (X ++ [(bf, boxS from_)]) (fromL from_ (visA V n i from_))) := by
  have hnil := eq_yieldS
  have H1 : PV w0 pp n c V ((W.heap.size, boxY B) :: (X ++ ((bf, boxS from_) :: Rc))) (W.alloc (boxY B)) := H.push (boxY B)
  have c1 := boxT_cell (H1.mem (x := (bt, boxT tb)) (by simp [h1]))
  have c2 := boxS_cell (H1.mem (x := (bf, boxS from_)) (by simp))
  have c3 := boxY_cell (H1.mem (x := (W.heap.size, boxY B)) (by simp))
  have H1' := Lib.hid H1
  clear H1
  unfold boxY at c1 c2 c3
  refine callsIn_wide.2 ((callsIn_wide (n := 10)).1 ?_)
  refine callsIn_of_wp_marks Tryz.func155 rfl trivial ?_ rfl
  simp only [Tryz.ntmps155, List.size_toArray, List.length_cons, List.length_nil, Nat.reduceAdd, Nat.reduceSub, Array.replicate_succ, Array.replicate_zero, List.push_toArray, List.append_toArray, List.nil_append, List.cons_append]
  refine wpIn_wide.2 ?_
  go_wp2_with fail
  refine (nodes_mk _ _).mono ?_
  rintro e _ ⟨rfl, rfl⟩
  go_wp2_with fail
  obtain ⟨b0, hb0⟩ : ∃ b0, W.heap.size = b0 := ⟨_, rfl⟩
  have H7 : PV w0 pp n c V (((b0 + 1 + 1, boxS from_) :: (b0 + 1, boxT tb) :: X) ++ ((bf, boxS from_) :: (b0, boxY B) :: Rc)) (((W.alloc (boxY B)).alloc (boxT tb)).alloc (boxS from_)) := by
    have h := (H1'.out.push (boxT tb)).push (boxS from_)
    rw [World.size_alloc, World.size_alloc, hb0] at h
    refine h.sub _ fun y hy => ?_
    simp only [List.mem_append, List.mem_cons] at hy ⊢
    rcases hy with (h | h | h) | h | h | h
    · exact .inl h
    · exact .inr (.inl h)
    · exact .inr (.inr (.inr (.inl h)))
    · exact .inr (.inr (.inr (.inr (.inl h))))
    · exact .inr (.inr (.inl h))
    · exact .inr (.inr (.inr (.inr (.inr h))))
  have hAp : Ap ((b0 + 1 + 1, boxS from_) :: (b0 + 1, boxT tb) :: X) ((bf, boxS from_) :: (b0, boxY B) :: Rc) := fun z hz y hy => by
    have hzl : z ∈ X → z.1 < b0 := fun h => by rw [← hb0]; exact H.lt (x := z) (by simp [h])
    have hyl : y.1 ≤ b0 := by
      simp only [List.mem_cons] at hy
      rw [← hb0]
      rcases hy with rfl | rfl | hy
      · exact Nat.le_of_lt (H.lt (x := (bf, boxS from_)) (by simp))
      · exact Nat.le_of_eq hb0.symm
      · exact Nat.le_of_lt (H.lt (x := y) (by simp [hy]))
    rcases List.mem_cons.1 hz with rfl | hz
    · simp only; omega
    · rcases List.mem_cons.1 hz with rfl | hz
      · simp only; omega
      · simp only [List.mem_cons] at hy
        rcases hy with rfl | rfl | hy
        · exact hK.2.1 z hz _ (by simp)
        · have := hzl hz
          simp only; omega
        · exact hK.2.1 z hz _ (by simp [hy])
  have hAq : Ap [(bf, boxS from_), (b0, boxY B)] Rc := fun z hz y hy => by
    have hyl : y.1 < b0 := by rw [← hb0]; exact H.lt (x := y) (by simp [hy])
    simp only [List.mem_cons, List.not_mem_nil, or_false] at hz
    rcases hz with rfl | rfl
    · exact hK.2.2 _ (by simp) y hy
    · simp only; omega
  have hW7e : ((W.alloc (.cells #[.func (.yield (B + 1)) #[] #[]] 219)).alloc (boxT tb)).alloc (boxS from_) = ((W.alloc (boxY B)).alloc (boxT tb)).alloc (boxS from_) := rfl
  obtain ⟨W7, hW7⟩ : ∃ W7, ((W.alloc (boxY B)).alloc (boxT tb)).alloc (boxS from_) = W7 := ⟨_, rfl⟩
  rw [hW7] at H7 hW7e
  rw [hW7e, hb0]
  clear c1 c2 c3 H1' H hW7e hW7 hb0
  have hGB := H7.gb
  have hHK := Lib.hid (And.intro hK.1 hAq)
  clear hK hAq
  refine (wpIn_wide (n := 9)).1 ?_
  refine wpIn_rounds2P (X0 := X) (P := fun xs => xs <+: visA V n i from_) (key := keyN) (encs := encN) (Fit := FitX) ((b0 + 1 + 1, boxS from_) :: (b0 + 1, boxT tb) :: X) ((bf, boxS from_) :: (b0, boxY B) :: Rc) (gf := 164) (lb := #[.pointer (some ⟨b0 + 1, 0, none⟩), .pointer (some ⟨b0 + 1 + 1, 0, none⟩)]) rfl (enters_of Tryz.func164 (by kernel_rfl) rfl) (fun _ => rfl) H7 (hGB.sub fun y hy => List.mem_append_left _ hy) (hGB.sub fun y hy => List.mem_append_right _ hy)
    (FrKy bf b0 from_ B K) (FrXy bf b0 from_ B K Kx) ⟨⟨(fun _ h => by cases h), Rc, rfl, hHK.out.2, hHK.out.1⟩, hAp⟩
    (fun xs => xs = visA V n i from_) (fun xs => xs <+: visA V n i from_)
    (fun K' Kx' R' W hY hK H _ => nodes_seqP (tb := tb) (bt := b0 + 1) (bf := b0 + 1 + 1) hn hi from_ (by simp [hT]) (by simp) (by simp) (hGB.sub fun y hy => List.mem_append_left _ hy) K' Kx' R' W hY hK H (fun q hq => hq) (fun y hy => by simp [hy]) _)
    (fun X1 y a' => ∃ nb : Nat, X1 = [(nb, ndO y.1)] ∧ a' = { tmps := #[.func (.yield (B + 1)) #[] #[], .pointer (some ⟨bt, 0, none⟩), .pointer (some ⟨bf, 0, none⟩), .pointer (some ⟨b0, 0, none⟩), .pointer (some ⟨nb, 0, none⟩), errV y.2, .func (.yield (B + 1)) #[] #[], .bool false, .pointer (some ⟨tb, 0, none⟩), .string from_, .func (.func 164) #[] #[.pointer (some ⟨b0 + 1, 0, none⟩), .pointer (some ⟨b0 + 1 + 1, 0, none⟩)], .agg y.1.cells, errV y.2, undef, undef, undef, undef, undef, undef, undef, undef], defers := [] }) ?assign ?body ?done ?stop
  case assign =>
    intro l x W X' Kc hF hk hK
    obtain ⟨ev, hev⟩ : ∃ ev : Int, (if x.2 = true then (6 : Int) else 0) = ev := ⟨_, rfl⟩
    have he : encN x = #[.agg x.1.cells, .int .i64 ev] := by
      unfold encN errV
      rw [hev]
    rw [he]
    have hst := store_nd_fresh W x.1
    obtain ⟨W5, hW5⟩ : ∃ W5, W.alloc (ndO x.1) = W5 := ⟨_, rfl⟩
    rw [hW5] at hst
    gi_wp2
    refine hK _ _ _ (.inr ⟨ndO x.1, rfl, hW5.symm, rfl⟩) ⟨W.heap.size, rfl, ?_⟩
    unfold errV
    rw [hev]
  case body =>
    rintro l r pre y X' X1 R' a' W hpy hxx ⟨⟨hgood, R0, rfl, hA0, hK⟩, hA⟩ hF ⟨nb, rfl, rfl⟩ hGX hGR h
    obtain ⟨ny, b⟩ := y
    have c2 := boxS_cell (h.mem (x := (bf, boxS from_)) (by simp))
    have c3 := boxY_cell (h.mem (x := (b0, boxY B)) (by simp))
    cases b with
    | true =>
      have HP := Lib.hid (And.intro hgood (And.intro hK (And.intro hA (And.intro hA0 (And.intro hGR (h.sub ((W7.heap.size + 1, .loop r) :: (W7.heap.size, .deferred (some [])) :: (X' ++ ((bf, boxS from_) :: (b0, boxY B) :: R0))) fun y hy => by simp only [List.mem_cons, List.mem_append] at hy ⊢; rcases hy with h | h | h | h | h | h <;> simp [h]))))))
      clear h hgood hGR hK hA hA0
      unfold errV
      gi_wp2
      refine ⟨trivial, ?_⟩
      gi_wp2
      exact ⟨_, ⟨⟨rfl, R0, rfl, HP.out.2.2.2.1, .inl ⟨pre, ny.D, rfl, HP.out.1, HP.out.2.1⟩⟩, fun z hz => HP.out.2.2.1 z (by simp [hz])⟩, HP.out.2.2.2.2.1, HP.out.2.2.2.2.2⟩
    | false =>
      have hF' : FitN X' ny false := hF
      have hAg : Ap ((W7.heap.size + 1, .loop r) :: (W7.heap.size, .deferred (some [])) :: (nb, ndO ny) :: (bf, boxS from_) :: (b0, boxY B) :: X') R0 := fun z hz y hy => by
        simp only [List.mem_cons] at hz
        have hyR := hGR y (by simp [hy])
        have hPa := h.apart rfl rfl (by
          refine (GB.cons (GB.nil _) rfl).app (hGX.app hGR))
        rcases hz with rfl | rfl | rfl | rfl | rfl | hz
        · exact fun e => hPa.1 y (by simp [hy]) e.symm
        · exact fun e => hPa.2 y (by simp [hy]) e.symm
        · exact hA (nb, ndO ny) (by simp) y (by simp [hy])
        · exact hA0 _ (by simp) y hy
        · exact hA0 _ (by simp) y hy
        · exact hA z (by simp [hz]) y (by simp [hy])
      have HG := Lib.hid (give_yP B hY from_ (fromL from_ pre) ((W7.heap.size + 1, .loop r) :: (W7.heap.size, .deferred (some [])) :: (nb, ndO ny) :: (bf, boxS from_) :: (b0, boxY B) :: X') R0 nb ny W ⟨hK, hAg⟩ (h.sub _ fun y hy => by simp only [List.mem_cons, List.mem_append, List.cons_append] at hy ⊢; rcases hy with h | h | h | h | h | h | h <;> simp [h]) (by simp) { hF' with kn := fun h => (hF'.kn h).mono fun y hy => by simp [hy] } (fun z hz => .inr ⟨fun e => by
        obtain ⟨o, ho⟩ := hKB _ _ hK B (.inl rfl)
        exact hAg z hz _ ho e, fun e => by
        obtain ⟨o, ho⟩ := hKB _ _ hK (B + 1) (.inr rfl)
        exact hAg z hz _ ho e⟩) (fun q hq => hP q (by
        refine hq.trans ?_
        have h1 := fromL_one from_ pre ny.D hgood
        rw [← h1]
        obtain ⟨t, ht⟩ := hpy
        rw [← ht]
        exact fromL_prefix from_ _ _)) fun y hy => by simp [hxx y (hX0 y hy)])
      have HX := Lib.hid (And.intro hgood (And.intro hA (And.intro hA0 hGR)))
      clear h hgood hA hA0 hGR hK hAg hF' hF hGX
      unfold errV
      gi_wp2
      refine ⟨trivial, (HG.out.inRound l).mono ?_⟩
      rintro e w8 (⟨rfl, Rc', ⟨hK, hA⟩, h⟩ | ⟨rfl, q, Rc', hq, ⟨hK, hA⟩, h⟩)
      · have HZ : Hid (∃ R', (FrKy bf b0 from_ B K (pre ++ [keyN (ny, false)]) R' ∧ Ap X' R') ∧ GB W7.heap.size R' ∧ PV w0 pp n c V ((W7.heap.size + 1, .loop r) :: (W7.heap.size, .deferred (some [])) :: (X' ++ R')) w8) := Lib.hid (by
          refine ⟨(bf, boxS from_) :: (b0, boxY B) :: Rc', ⟨⟨?_, Rc', rfl, fun z hz y hy => hA z (by simp only [List.mem_cons, List.not_mem_nil, or_false] at hz ⊢; rcases hz with h | h <;> simp [h]) y hy, ?_⟩, ?_⟩, ?_, ?_⟩
          · intro z hz
            rcases List.mem_append.1 hz with hz | hz
            · exact HX.out.1 z hz
            · rw [List.mem_singleton] at hz
              rw [hz]
              rfl
          · rw [show keyN (ny, false) = (ny.D, false) from rfl, fromL_one from_ pre _ HX.out.1]
            exact hK
          · intro z hz y hy
            simp only [List.mem_cons] at hy
            rcases hy with rfl | rfl | hy
            · exact HX.out.2.1 z (by simp [hz]) _ (by simp)
            · exact HX.out.2.1 z (by simp [hz]) _ (by simp)
            · exact hA z (by simp [hz]) y hy
          · refine (GB.cons (GB.cons (fun y hy => .inr ⟨?_, ?_⟩) rfl) rfl)
            · exact fun e => hA (W7.heap.size, .deferred (some [])) (by simp) y hy e.symm
            · exact fun e => hA (W7.heap.size + 1, .loop r) (by simp) y hy e.symm
          · exact h.sub _ fun y hy => by simp only [List.mem_cons, List.mem_append, List.cons_append] at hy ⊢; rcases hy with h | h | h | h | h | h <;> simp [h])
        clear hK hA h HG
        gi_wp2
        exact HZ.out
      · have HZ : Hid (∃ R', (FrXy bf b0 from_ B K Kx .ret (pre ++ [keyN (ny, false)]) R' ∧ Ap X' R') ∧ GB W7.heap.size R' ∧ PV w0 pp n c V ((W7.heap.size + 1, .loop r) :: (W7.heap.size, .deferred (some [])) :: (X' ++ R')) w8) := Lib.hid (by
          refine ⟨(bf, boxS from_) :: (b0, boxY B) :: Rc', ⟨⟨rfl, Rc', rfl, fun z hz y hy => hA z (by simp only [List.mem_cons, List.not_mem_nil, or_false] at hz ⊢; rcases hz with h | h <;> simp [h]) y hy, .inr ⟨fromL from_ pre ++ q, ?_, hK⟩⟩, ?_⟩, ?_, ?_⟩
          · rw [show keyN (ny, false) = (ny.D, false) from rfl, fromL_one from_ pre _ HX.out.1]
            exact (List.prefix_append_right_inj _).2 hq
          · intro z hz y hy
            simp only [List.mem_cons] at hy
            rcases hy with rfl | rfl | hy
            · exact HX.out.2.1 z (by simp [hz]) _ (by simp)
            · exact HX.out.2.1 z (by simp [hz]) _ (by simp)
            · exact hA z (by simp [hz]) y hy
          · refine (GB.cons (GB.cons (fun y hy => .inr ⟨?_, ?_⟩) rfl) rfl)
            · exact fun e => hA (W7.heap.size, .deferred (some [])) (by simp) y hy e.symm
            · exact fun e => hA (W7.heap.size + 1, .loop r) (by simp) y hy e.symm
          · exact h.sub _ fun y hy => by simp only [List.mem_cons, List.mem_append, List.cons_append] at hy ⊢; rcases hy with h | h | h | h | h | h <;> simp [h])
        clear hK hA h HG hq
        gi_wp2
        exact HZ.out
  case done =>
    intro xs R' W hS hK h hne
    obtain ⟨hgood, R0, rfl, hA0, hK⟩ := hK
    have h3 := h.obj (o' := .deferred none) hne rfl rfl H7.below.size
    have hd := h.mem (x := (W7.heap.size, .deferred (some []))) (by simp)
    have HP := Lib.hid (And.intro (h3.sub (X ++ ((bf, boxS from_) :: R0)) fun y hy => by simp only [List.mem_cons, List.mem_append, List.cons_append] at hy ⊢; rcases hy with h | h | h <;> simp [h]) (And.intro hd (And.intro hS hK)))
    clear h h3 hd hS hgood hne hK hA0
    go_wp2_with fail
    refine ⟨by simp, .inl ⟨_, _, rfl, run_takeDeferred HP.out.2.1, ?_⟩⟩
    exact ⟨.tuple #[], by simp [results, Tryz.results155, go_sem], rfl, _, HP.out.1.sub ((X ++ [(bf, boxS from_)]) ++ R0) fun y hy => by simp only [List.mem_append, List.mem_cons, List.not_mem_nil, or_false] at hy ⊢; rcases hy with (h | h) | h <;> simp [h], .inl (by rw [← HP.out.2.2.1]; exact HP.out.2.2.2)⟩
  case stop =>
    intro cd xs R' W hSp hK h hne
    obtain ⟨rfl, R0, rfl, hA0, hK⟩ := hK
    have h3 := h.obj (o' := .deferred none) hne rfl rfl H7.below.size
    have hd := h.mem (x := (W7.heap.size, .deferred (some []))) (by simp)
    have HP := Lib.hid (And.intro (h3.sub (X ++ ((bf, boxS from_) :: R0)) fun y hy => by simp only [List.mem_cons, List.mem_append, List.cons_append] at hy ⊢; rcases hy with h | h | h <;> simp [h]) (And.intro hd (And.intro hSp hK)))
    clear h h3 hd hSp hne hK hA0
    refine wpIn_wide.2 ?_
    go_wp2_with fail
    refine ⟨by simp, .inl ⟨_, _, rfl, run_takeDeferred HP.out.2.1, ?_⟩⟩
    exact ⟨.tuple #[], by simp [results, Tryz.results155, go_sem], rfl, _, HP.out.1.sub ((X ++ [(bf, boxS from_)]) ++ R0) fun y hy => by simp only [List.mem_append, List.mem_cons, List.not_mem_nil, or_false] at hy ⊢; rcases hy with (h | h) | h <;> simp [h], from_end HP.out.2.2.1 HP.out.2.2.2⟩
end
end Go.Proofs.YtcjfnfdinhbdlaaGreatDoor
namespace Go.Proofs.YtcjfnfdinhbdlaaGreatDoor
set_option maxRecDepth 100000
open Go.ChangeShapes Go.WideShapes Go.ChangeAt Go.RowKit Go.PlainAid
theorem nodup_len : ∀ (n : Nat) (l : List Int), l.Nodup → (∀ x ∈ l, 0 ≤ x ∧ x < n) → l.length ≤ n
  | 0, l, _, h => by
    cases l with
    | nil => exact Nat.le_refl _
    | cons x l =>
      have := h x List.mem_cons_self
      omega
  | n + 1, l, hn, h => by
    by_cases hm : (n : Int) ∈ l
    · have h1 := nodup_len n (l.erase (n : Int)) (hn.erase _) fun x hx => by
        obtain ⟨a, b⟩ := hn.mem_erase_iff.1 hx
        have := h x b
        omega
      rw [List.length_erase_of_mem hm] at h1
      omega
    · have := nodup_len n l hn fun x hx => by
        have h1 := h x hx
        have : x ≠ (n : Int) := fun e => hm (by rw [← e]; exact hx)
        omega
      omega
section
variable {V V' : Int → ByteArray} {n : Nat} {i : Int}
theorem tree_small {H : Nat} {a : Int} {lo hi : ByteArray} {R : List Pr} {Q : List Int} (hn : n ≤ 1024) (t : Tr (seeV V n) H a lo hi R Q) (hnd : Q.Nodup) : H ≤ 9 := by
  have h1 := nodup_len n Q hnd fun c hc => by have := out_in (see_out (tr_some t c hc)); omega
  have h2 := tr_deep t
  by_cases h : H ≤ 9
  · exact h
  · have h3 : 2 ^ 11 ≤ 2 ^ (H + 1) := Nat.pow_le_pow_right (by decide) (by omega)
    have e : (2 : Nat) ^ 11 = 2048 := rfl
    omega
theorem root_read {H : Nat} {root : Int} {R : List Pr} {Q : List Int} (t : Tr (seeV V n) H root ⟨#[]⟩ ⟨#[]⟩ R Q) :
    ∃ y Q', rdN V (outB n (V 0)) (rootM root).D = (y, false) ∧ y.at_ = root ∧ y.low = ⟨#[]⟩ ∧ y.high = ⟨#[]⟩ ∧ y.level = (H : Int) + 1 ∧ Lawful y.level y.low y.high y.L ∧ Bd (seeV V n) H y.L y.high R Q' ∧ Q = y.at_ :: Q' ∧ seeV V n y.at_ = some (y.level, y.L) := by
  obtain ⟨L, Q', t1, t2, t3, t4⟩ := tr_iff.1 t
  have hr : rdP V (outB n (V 0)) (rootM root).D = some ((H : Int) + 1, L) := rdP_get (x := (rootM root).D) t1 (.inl rfl) t2
  refine ⟨{ (rootM root).D with level := (H : Int) + 1, L := L }, Q', ?_, rfl, rfl, rfl, rfl, t2, t3, t4, t1⟩
  unfold rdN
  rw [hr]
theorem root_pos {H : Nat} {root : Int} {R : List Pr} {Q : List Int} (t : Tr (seeV V n) H root ⟨#[]⟩ ⟨#[]⟩ R Q) : 2 ≤ root ∧ root < n := out_in (see_out (tr_some t root (tr_root t)))
theorem wayA_some {H : Nat} {R : List Pr} {Q : List Int} (hn : n ≤ 1024) (hnd : Q.Nodup) (t : Tr (seeV V n) H (rootZ (V 1) i) ⟨#[]⟩ ⟨#[]⟩ R Q) (key : ByteArray) : ∃ x, wayA V n i key = some x := by
  have hp := root_pos t
  have hs := tree_small hn t hnd
  obtain ⟨y, Q', y1, y2, y3, y4, y5, y6, y7, _, _⟩ := root_read t
  obtain ⟨x, hx⟩ := leaf_found (V := V) (out := outB n (V 0)) key H 255 (by omega) y R Q' y5 y6 y7
  refine ⟨x, ?_⟩
  unfold wayA
  rw [if_neg (by omega), y1]
  exact hx
theorem wy_ups {G : Pgs} {a0 : Int} : ∀ {us : List (NdD × Nat)} {h : Nat} {a : Int} {lo hi : ByteArray} {A B : List Pr} {C : List Int}, Wy G a0 us h a lo hi A B C → ∀ u ∈ us, G u.1.at_ = some (u.1.level, u.1.L) ∧ Lawful u.1.level u.1.low u.1.high u.1.L ∧ u.2 < u.1.L.length ∧ 2 ≤ u.1.level ∧ u.1.level ≤ (h : Int) + us.length + 1
  | [], _, _, _, _, _, _, _, _ => by
    intro u hu
    cases hu
  | v :: us, h, a, lo, hi, A, B, C, ⟨L1, p, L2, R1, Q1, R2, Q2, A', B', C', h1, h2, h3, h4, h5, h6, h7, h8, h9, h10, h11, h12, h13, h14⟩ => by
    intro u hu
    rcases List.mem_cons.1 hu with rfl | hu
    · refine ⟨h4, h5, ?_, by omega, by rw [List.length_cons]; push_cast; omega⟩
      rw [h1, List.length_append, List.length_cons]
      omega
    · obtain ⟨a1, a2, a3, a4, a5⟩ := wy_ups h11 u hu
      refine ⟨a1, a2, a3, a4, ?_⟩
      rw [List.length_cons]
      push_cast at a5 ⊢
      omega
structure TreeTo (V V' : Int → ByteArray) (n : Nat) (i : Int) (R' : List Pr) (Q Q' N Z : List Int) : Prop where
  bits : BitsOk V' n
  tree : TreeG (seeV V' n) (rootZ (V' 1) i) R' Q'
  nodup : Q'.Nodup
  perm : (Q ++ N).Perm (Q' ++ Z)
  roots : ∀ j, 0 ≤ j ∧ j < 16 → j ≠ i → rootZ (V' 1) j = rootZ (V 1) j
  frame : ∀ c, c ∉ Q → c ∉ N → seeV V' n c = seeV V n c
  outs : ∀ c, outB n (V' 0) c = true ↔ (outB n (V 0) c = true ∨ c ∈ N) ∧ c ∉ Z
  fresh : ∀ c ∈ N, outB n (V 0) c = false
  used : usedN (V' 0) n + Z.length = usedN (V 0) n + N.length
theorem upsF {x : NdD} {us : List (NdD × Nat)} {a0 : Int} {R0 A R B : List Pr} {Q0 Q C : List Int} {key : ByteArray} {h : Nat} (hn : n ≤ 1024) (hnd : Q0.Nodup) (ow : OnWay (seeV V n) a0 R0 Q0 key us x h A R B Q C) :
    h + us.length ≤ 9 ∧ ∀ u ∈ us, UpF n V u.1 ∧ u.2 < u.1.L.length := by
  obtain ⟨Qn, t2, hp⟩ := wy_climb ow.wy ow.tr
  have h9 := tree_small hn t2 ((List.Perm.nodup_iff (hp.trans ow.perm.symm)).2 hnd)
  refine ⟨h9, fun u hu => ?_⟩
  obtain ⟨a1, a2, a3, a4, a5⟩ := wy_ups ow.wy u hu
  refine ⟨⟨by omega, fun q hq => ⟨((risB_iff.1 a2.rise).2 q hq).small, (lnkB_iff.1 (a2.links (by omega))).1 q hq⟩, a2.weight, see_out (by rw [a1]; simp)⟩, a3⟩
theorem near_prs {level : Int} {lo hi : ByteArray} {L : List Pr} (h : Near level lo hi L) : ∀ q ∈ L, q.key.size ≤ 32 ∧ 2 + q.key.size + q.val.size ≤ szP level q ∧ szP level q ≤ 114 := fun q hq => by
  have h1 := ((risB_iff.1 h.rise).2 q hq).small
  refine ⟨h1, ?_, h.sz q hq⟩
  unfold szP
  split
  · have := (lnkB_iff.1 (h.links (by omega))).1 q hq
    omega
  · exact Nat.le_refl _
theorem putV_ok {H : Nat} {R0 : List Pr} {Q0 : List Int} {x y : NdD} {us : List (NdD × Nat)} {r : Pr} (hi : 0 ≤ i ∧ i < 16) (hb : BitsOk V n) (t : Tr (seeV V n) H (rootZ (V 1) i) ⟨#[]⟩ ⟨#[]⟩ R0 Q0) (hnd : Q0.Nodup)
    (hy : rdN V (outB n (V 0)) (rootM (rootZ (V 1) i)).D = (y, false)) (hw : WayL V (outB n (V 0)) r.key us x y) (hx : x.level = 1) (h0 : r.key.size ≠ 0) (h32 : r.key.size ≤ 32) (h80 : r.val.size ≤ 80) :
    us.length ≤ 9 ∧ CurF n V { x with L := putB r x.L } ∧ (∀ u ∈ us, UpF n V u.1 ∧ u.2 < u.1.L.length) ∧ ∀ V', GrowV n i us { x with L := putB r x.L } V V' → ∃ Q' N, TreeTo V V' n i (putB r R0) Q0 Q' N [] := by
  obtain ⟨y', Q1, y1, y2, y3, y4, y5, y6, y7, _, y8⟩ := root_read t
  have e : y' = y := by
    rw [y1] at hy
    exact (Prod.mk.inj hy).1
  subst e
  obtain ⟨h, A, R, B, Q, C, ow⟩ := way_ok t ⟨y2, y3, y4⟩ y8 us x hw
  obtain ⟨l1, l2, Q', rfl, hbd⟩ := tr_lev ow.tr ow.see
  have hh : h = 0 := by omega
  subst hh
  obtain ⟨u1, u2⟩ := upsF hb.pages hnd ow
  rw [hx] at l2
  have hro : RecOk x.low x.high r := ⟨h0, h32, h80, ow.low, ow.high⟩
  obtain ⟨n1, n2⟩ := near_put l2 hro
  have hcur : CurF n V { x with L := putB r x.L } := ⟨by show 1 ≤ x.level ∧ x.level ≤ 254; omega, by show ∀ q ∈ putB r x.L, q.key.size ≤ 32 ∧ 2 + q.key.size + q.val.size ≤ szP x.level q ∧ szP x.level q ≤ 114; rw [hx]; exact near_prs n1, by show wtP x.level _ ≤ _; rw [hx]; exact n2, see_out (by show seeV V n x.at_ ≠ none; rw [show seeV V n x.at_ = _ from ow.see]; simp)⟩
  refine ⟨by omega, hcur, u2, fun V' hg => ?_⟩
  obtain ⟨N, rt, g1, g2, g3, g4, g5, g6⟩ := growV_G hi hb hcur (fun u hu => (u2 u hu).1) (fun u hu => (u2 u hu).2) hg
  obtain ⟨H', Qn, p1, p2, p3, p4, p5, p6⟩ := tput_ok t hnd ⟨y2, y3, y4⟩ y8 (see_bounds hb.pages) hw hx h0 h32 h80 g1
  refine ⟨Qn, N, g5, .inr ⟨H', ?_⟩, p3.nodup, by rw [List.append_nil]; exact p2.symm, fun j hj hne => by rw [g2 j hj, if_neg hne], fun c h1 h2 => p3.frame c h1 fun h => ?_, fun c => by rw [g3 c]; simp, g4, by rw [g6]; rfl⟩
  · rw [g2 i hi, if_pos rfl]
    exact p1
  · rcases List.mem_append.1 (p2.mem_iff.1 h) with h | h
    · exact h1 h
    · exact h2 h
theorem putV_first {v : Int} {r : Pr} (hi : 0 ≤ i ∧ i < 16) (hb : BitsOk V n) (hv : Least (V 0) 2 n v) (h0 : r.key.size ≠ 0) (h32 : r.key.size ≤ 32) (h80 : r.val.size ≤ 80) : ∃ Q' N, TreeTo V (topV V i v 1 [r]) n i (putB r []) [] Q' N [] := by
  have hpk : pkS [r] ≤ 254 := by
    unfold pkS
    simp only [List.map_cons, List.map_nil, List.sum_cons, List.sum_nil]
    omega
  obtain ⟨t1, t2, t3, t4, t5⟩ := see_top (level := 1) hb hi hv hpk (by omega) (by omega)
  have hl : Lawful 1 ⟨#[]⟩ ⟨#[]⟩ [r] := by
    refine ⟨Int.le_refl _, ?_, risB_iff.2 ⟨srt_cons srt_nil (fun q hq => by cases hq), fun p hp => ?_⟩, fun _ => recB_iff.2 ⟨fun p hp => ?_, by show 0 < 1; decide⟩, fun e => absurd rfl e⟩
    · have : wtP 1 [r] = 2 + r.key.size + r.val.size := by
        rw [wtP_cons, wtP_nil]
        unfold szP
        rw [if_neg (by omega)]
        rfl
      omega
    · simp only [List.mem_singleton] at hp
      subst hp
      exact ⟨h32, lessB_empty _, .inl rfl⟩
    · simp only [List.mem_singleton] at hp
      subst hp
      exact ⟨h0, h80⟩
  have hvo : outB n (V 0) v = false := by
    obtain ⟨⟨_, _, _, _, e⟩, _⟩ := hv
    unfold outB
    rw [e]
    simp
  have ep : putB r [] = [r] := rfl
  refine ⟨[v], [v], t3, .inr ⟨0, ?_, ?_, ?_⟩, by simp, by simp, fun j hj hne => by rw [t5 j hj, if_neg hne], fun c _ hc => ?_, fun c => ?_, fun c hc => ?_, by rw [t4]; rfl⟩
  · rw [t5 i hi, if_pos rfl, t1, wrG_self, ep]
  · rw [ep]
    exact hl
  · rw [t5 i hi, if_pos rfl]
  · rw [t1, wrG_other fun e => hc (by simp [e])]
  · rw [t2]
    by_cases h : c = v
    · simp [h]
    · simp [h]
  · simp only [List.mem_singleton] at hc
    subst hc
    exact hvo
end
end Go.Proofs.YtcjfnfdinhbdlaaGreatDoor
namespace Go.Proofs.YtcjfnfdinhbdlaaGreatDoor
set_option maxRecDepth 100000
open Go.ChangeShapes Go.WideShapes Go.ChangeAt Go.RowKit Go.PlainAid
theorem visA_tree {V : Int → ByteArray} {n : Nat} {i : Int} {R0 : List Pr} {Q0 : List Int} (hn : n ≤ 1024) (ht : TreeG (seeV V n) (rootZ (V 1) i) R0 Q0) (hnd : Q0.Nodup) (f : ByteArray) :
    fromL f (visA V n i f) = fromR f R0 ∧ (∀ z ∈ visA V n i f, z.2 = false) ∧ (f = ⟨#[]⟩ → (visA V n i f).map (fun z => z.1.at_) = Q0) := by
  rcases ht with ⟨h, rfl, rfl⟩ | ⟨H, t⟩
  · unfold visA
    rw [if_pos h]
    exact ⟨rfl, (fun z hz => by cases hz), fun _ => rfl⟩
  · have hp := root_pos t
    have hs := tree_small hn t hnd
    obtain ⟨y, Q', y1, y2, y3, y4, y5, y6, y7, rfl, _⟩ := root_read t
    have h := tr_vis (V := V) (out := outB n (V 0)) f H 255 (by omega) y R0 Q' y5 y6 y7
    unfold visA
    rw [if_neg (by omega), y1]
    exact h
end Go.Proofs.YtcjfnfdinhbdlaaGreatDoor
