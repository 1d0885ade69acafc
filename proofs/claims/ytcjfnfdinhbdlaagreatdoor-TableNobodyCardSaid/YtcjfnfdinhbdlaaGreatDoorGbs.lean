import Derived.Test.YtcjfnfdinhbdlaaGreatDoorGbr
import Derived.Test.YtcjfnfdinhbdlaaGreatDoorGbo
import Derived.Test.YtcjfnfdinhbdlaaGreatDoorGbj
namespace Go.Proofs.YtcjfnfdinhbdlaaGreatDoor
set_option maxRecDepth 100000
open Go.ChangeShapes Go.WideShapes Go.ChangeAt Go.RowKit Go.PlainAid Go.Deep
attribute [local go_sem ↓ high] load_op store_o app_opO
attribute [local go_sem] Oper.semAt_some
def boxTb (tt : Nat) : Obj := .cells #[.pointer (some ⟨tt, 0, none⟩)] 25 (0, 0)
def boxIn (k : Int) : Obj := .cells #[.int .i64 k] 3 (0, 0)
theorem solo_cell {w : World} {b : Nat} {v : Value} {t : TypeId} (h : w.heap[b]? = some (.cells #[v] t (0, 0))) : w.cell? ⟨b, 0, none⟩ = some v := by
  rw [cell_of_row _ _ _ _ _ _ h]
  rfl
theorem tab_at {w : World} {tt : Nat} {tb : Nat → Nat} (h : w.heap[tt]? = some (tabO tb)) {k : Nat} (hk : k < 5) : w.cell? ⟨tt, k, none⟩ = some (.pointer (some ⟨tb k, 0, none⟩)) := by
  obtain ⟨d0, d1, d2, d3, d4⟩ := tab_cells h
  have h5 : k = 0 ∨ k = 1 ∨ k = 2 ∨ k = 3 ∨ k = 4 := by omega
  rcases h5 with rfl | rfl | rfl | rfl | rfl
  · exact d0
  · exact d1
  · exact d2
  · exact d3
  · exact d4
def LsK (R : List (Nat × Obj)) (lo cb k : Nat) (l : List OpV) (past : ByteArray) (pre : List Pr) (Rc : List (Nat × Obj)) : Prop :=
  ∃ v Y, (∀ p ∈ pre, tillB past p = true) ∧ Rc = (cb, boxO v) :: Y ∧ OpR lo (pre.filterMap fun p => undO k l p.key p.val) v Y ∧ (∀ y ∈ Y, y.1 ≠ cb) ∧ ∀ y ∈ Y, ∀ z ∈ R, z.1 ≠ y.1
def LsX (R : List (Nat × Obj)) (lo cb k : Nat) (l : List OpV) (past : ByteArray) (cd : Code) (pre : List Pr) (Rc : List (Nat × Obj)) : Prop :=
  cd = .exit 0 ∧ ∃ A q, pre = A ++ [q] ∧ tillB past q = false ∧ LsK R lo cb k l past A Rc
def ListPost (w0 : World) (pp n c : Nat) (V : Int → ByteArray) (R : List (Nat × Obj)) (L : List OpV) (e : Ending) (w' : World) : Prop :=
  ∃ v Y, e = .returned v ∧ OpR w0.heap.size L v Y ∧ PV w0 pp n c V (Y ++ R) w' ∧ ∀ y ∈ Y, ∀ z ∈ R, z.1 ≠ y.1
section
variable {w0 w w' : World} {pp n c tt : Nat} {tb : Nat → Nat} {V : Int → ByteArray} {R : List (Nat × Obj)} {u0 : Nat} {RR : Nat → List Pr} {QQ : Nat → List Int} {l : List OpV}
set_option maxHeartbeats 8000000 in
theorem list_any (H : PV w0 pp n c V R w) (hR : TabR pp tt tb R) (hn : 1 < n) (hT : TabV V n u0 l RR QQ) (hRu : RulesAt w0) (k : Nat) (hk5 : k < 5) (low past : ByteArray) (hlk : low.size ≤ 65536) (hl : l.length ≤ 1000) :
    Calls Tryz.prog 44 #[.pointer (some ⟨tt, 0, none⟩), .int .i64 k, .string low, .string past] w (ListPost w0 pp n c V R ((selR low past (RR k)).filterMap fun p => undO k l p.key p.val)) := by
  have H1 := ((H.push (boxTb tt)).push (boxIn k)).push (boxS past)
  have H4 := H1.push (boxO (.slice none 0 0))
  simp only [World.size_alloc] at H1 H4
  have hlo := H.below.size
  have HRB : Hid (∀ y ∈ R, y.1 < w.heap.size) := Lib.hid fun y hy => H.lt hy
  obtain ⟨b, hb⟩ : ∃ b, w.heap.size = b := ⟨_, rfl⟩
  rw [hb] at H1 H4 hlo HRB
  obtain ⟨W3, hW3⟩ : ∃ W, ((w.alloc (boxTb tt)).alloc (boxIn k)).alloc (boxS past) = W := ⟨_, rfl⟩
  rw [hW3] at H1 H4
  have hs3 : W3.heap.size = b + 3 := by rw [← hW3]; simp only [World.size_alloc]; omega
  obtain ⟨c0, c0', c0'', c0''', c0''''⟩ := tab_cells (H1.mem (x := (tt, tabO tb)) (by simp [hR.tab]))
  simp only at c0 c0' c0'' c0''' c0''''
  have HM := Lib.hid (tmade_yes c0)
  have a0 := solo_cell (H1.mem (x := (b, boxTb tt)) (by simp))
  have a1 := solo_cell (H1.mem (x := (b + 1, boxIn k)) (by simp))
  have a2 := solo_cell (H1.mem (x := (b + 1 + 1, boxS past)) (by simp))
  simp only at a0 a1 a2
  have hHH := H4
  have HX := Lib.hid (And.intro H4 (And.intro hR (And.intro hT (And.intro hRu hb))))
  obtain ⟨W4, hW4⟩ : ∃ W, W3.alloc (boxO (.slice none 0 0)) = W := ⟨_, rfl⟩
  rw [hW4] at HX hHH
  have d5 := solo_cell (hHH.drew.mem (x := (b, boxTb tt)) (by simp))
  have d6 := solo_cell (hHH.drew.mem (x := (b + 1, boxIn k)) (by simp))
  simp only at d5 d6
  have HF := Lib.hid (from_mk (tb := tb k) low hlk hHH.drew)
  have hk1 : decide ((k : Int) < 0) = false := decide_eq_false (by omega)
  have hk2 : decide ((5 : Int) ≤ (k : Int)) = false := decide_eq_false (by omega)
  have hk3 : ¬ (5 ≤ k) := by omega
  have hk4 : (k : Int) < 5 := by omega
  have dk := tab_at (hHH.drew.mem (x := (tt, tabO tb)) (by simp [hR.tab])) hk5
  clear H H1 H4 hR hT hRu hHH c0 c0' c0'' c0''' c0''''
  unfold boxTb boxIn boxS at hW3
  unfold boxO at hW4
  refine (callsIn_wide (n := 10)).1 ?_
  refine callsIn_of_wp_marks Tryz.func44 rfl trivial ?_ rfl
  simp only [Tryz.ntmps44, List.size_toArray, List.length_cons, List.length_nil, Nat.reduceAdd, Nat.reduceSub, Array.replicate_succ, Array.replicate_zero, List.push_toArray, List.append_toArray, List.nil_append, List.cons_append]
  refine wpIn_wide.2 ?_
  go_wp2_with fail
  refine HM.out.mono ?_
  rintro e _ ⟨rfl, rfl⟩
  go_wp2_with fail
  go_region_held3 (fun w' => w'.cell? ⟨b, 0, none⟩ = some (.pointer (some ⟨tt, 0, none⟩)) ∧ w'.cell? ⟨b + 1, 0, none⟩ = some (.int .i64 k) ∧ w'.cell? ⟨tt, k, none⟩ = some (.pointer (some ⟨tb k, 0, none⟩))) (go_keep)
    (first
      | (go_at_call 96
         (with_reducible refine HF.out.mono ?_)
         rintro e w5 ⟨bt, bf, rfl, H5, hb1, hb2⟩
         have y0 := solo_cell (H5.mem (x := (b, boxTb tt)) (by simp))
         have y1 := solo_cell (H5.mem (x := (b + 1, boxIn k)) (by simp))
         have y2 := tab_at (H5.mem (x := (tt, tabO tb)) (by simp [HX.out.2.1.tab])) hk5
         have H5' := Lib.hid H5
         clear H5)
      | fail)
  all_goals go_wp2_with fail
  have hWs : W4.drew.heap.size = b + 4 := by
    show W4.heap.size = b + 4
    rw [← hW4, World.size_alloc, hs3]
  rw [hWs] at hb1
  obtain ⟨cb, hcb⟩ : ∃ cb, b + 3 = cb := ⟨_, rfl⟩
  have hcb2 : b + 1 + 1 + 1 = cb := hcb
  have H6 : PV w0 pp n c V ((((bt, boxT (tb k)) :: (b + 1 + 1, boxS past) :: (b + 1, boxIn k) :: (b, boxTb tt) :: R) ++ [(bf, boxS low)]) ++ [(cb, boxO (.slice none 0 0))]) w5 := H5'.out.sub _ fun y hy => by
    rw [← hcb2] at hy
    simp only [List.cons_append, List.mem_append, List.mem_cons, List.not_mem_nil, or_false] at hy ⊢
    rcases hy with h | h | h | h | (h | h) | h <;> simp [h]
  have hGB := H6.gb
  have hAp : Ap (((bt, boxT (tb k)) :: (b + 1 + 1, boxS past) :: (b + 1, boxIn k) :: (b, boxTb tt) :: R) ++ [(bf, boxS low)]) [(cb, boxO (.slice none 0 0))] := fun z hz y hy => by
    rw [List.mem_singleton] at hy
    subst hy
    simp only [List.cons_append, List.mem_append, List.mem_cons, List.not_mem_nil, or_false] at hz
    rcases hz with rfl | rfl | rfl | rfl | hz | rfl
    · simp only; omega
    · simp only; omega
    · simp only; omega
    · simp only; omega
    · have := HRB.out z hz
      simp only; omega
    · simp only; omega
  have hXR : TabR pp tt tb (((bt, boxT (tb k)) :: (b + 1 + 1, boxS past) :: (b + 1, boxIn k) :: (b, boxTb tt) :: R) ++ [(bf, boxS low)]) := HX.out.2.1.more fun y hy => by simp [hy]
  have hvis := visA_tree H6.pages (HX.out.2.2.1.trees.tree k hk5) (HX.out.2.2.1.trees.nodup k hk5) low
  have hfull : fromL low (visA V n (k : Int) low) = fromR low (RR k) := hvis.1
  have hsrt := (HX.out.2.2.1.is k hk5).srt
  have HQ := Lib.hid (And.intro hXR (And.intro hfull hsrt))
  have hcap : (RR k).length ≤ 1000 := by rw [HX.out.2.2.1.len hk5]; exact hl
  have hcbl : w0.heap.size ≤ cb := by omega
  rw [hcb]
  clear H5' HM HF a0 a1 a2 d5 d6 dk y0 y1 y2 hW3 hW4 hXR hvis hfull hsrt hl
  refine (wpIn_wide (n := 10)).1 ?_
  refine wpIn_rounds2P (X0 := ((bt, boxT (tb k)) :: (b + 1 + 1, boxS past) :: (b + 1, boxIn k) :: (b, boxTb tt) :: R)) (P := fun q => q <+: fromR low (RR k)) (key := id) (encs := encP) (Fit := FitR) (((bt, boxT (tb k)) :: (b + 1 + 1, boxS past) :: (b + 1, boxIn k) :: (b, boxTb tt) :: R) ++ [(bf, boxS low)]) [(cb, boxO (.slice none 0 0))] (gf := 155) (lb := #[.pointer (some ⟨bt, 0, none⟩), .pointer (some ⟨bf, 0, none⟩)]) rfl (enters_of Tryz.func155 (by kernel_rfl) rfl) (fun _ => rfl) H6 (hGB.sub fun y hy => List.mem_append_left _ hy) (hGB.sub fun y hy => List.mem_append_right _ hy)
    (LsK R w0.heap.size cb k l past) (LsX R w0.heap.size cb k l past) ⟨⟨.slice none 0 0, [], (fun _ h => by cases h), rfl, .inl ⟨rfl, rfl, rfl⟩, (fun _ h => by cases h), fun _ h => by cases h⟩, hAp⟩
    (fun xs => xs = fromR low (RR k)) (fun xs => xs <+: fromR low (RR k))
    (fun K' Kx' R' W hY hK H hKB => by
      have hnum : ∀ z ∈ ((bt, boxT (tb k)) :: (b + 1 + 1, boxS past) :: (b + 1, boxIn k) :: (b, boxTb tt) :: R), z.1 ≠ bf := fun z hz => by
        simp only [List.mem_cons] at hz
        rcases hz with rfl | rfl | rfl | rfl | hz
        · simp only; omega
        · simp only; omega
        · simp only; omega
        · simp only; omega
        · have := HRB.out z hz
          omega
      refine (from1_yP (tb := tb k) (i := (k : Int)) (X := ((bt, boxT (tb k)) :: (b + 1 + 1, boxS past) :: (b + 1, boxIn k) :: (b, boxTb tt) :: R)) (Rc := R') w5.heap.size hY hKB hn (by omega) low bt bf W ⟨hK.1, fun z hz y hy => ?_, fun z hz => hK.2 z (List.mem_append_right _ hz)⟩ (H.sub _ fun y hy => ?_) (by simp [HX.out.2.1.tree k hk5]) List.mem_cons_self (fun q hq => by rw [← HQ.out.2.1]; exact hq) (fun y hy => hy)).mono ?_
      · rcases List.mem_cons.1 hy with rfl | hy
        · exact hnum z hz
        · exact hK.2 z (List.mem_append_left _ hz) y hy
      · simp only [List.mem_append, List.mem_cons, List.not_mem_nil, or_false] at hy ⊢
        rcases hy with h | h | h
        · exact .inl (.inl h)
        · exact .inl (.inr h)
        · exact .inr h
      · rintro e W' ⟨rfl, Rc', H', hK' | ⟨q, hq, hK'⟩⟩
        · exact ⟨⟨_, rfl⟩, .inl ⟨_, Rc', HQ.out.2.1, hK', H'⟩⟩
        · exact ⟨⟨_, rfl⟩, .inr ⟨q, Rc', by rw [← HQ.out.2.1]; exact hq, hK', H'⟩⟩)
    (fun X1 y a' => X1 = [] ∧ a' = { tmps := #[.pointer (some ⟨tt, 0, none⟩), .int .i64 k, .string low, .string past, .pointer (some ⟨b, 0, none⟩), .pointer (some ⟨b + 1, 0, none⟩), undef, .pointer (some ⟨b + 1 + 1, 0, none⟩), .slice none 0 0, .pointer (some ⟨b + 3, 0, none⟩), .string y.key, .string y.val, undef, undef, .pointer (some ⟨tt, 0, none⟩), .bool true, .bool false, .bool false, .int .i64 k, .bool false, .bool false, .bool false, .int .i64 k, .bool false, .bool false, .pointer (some ⟨tt, 0, none⟩), .int .i64 k, .pointer (some ⟨tt, 0, none⟩), .pointer (some ⟨tt, 0, none⟩), .pointer (some ⟨tt, k, none⟩), .pointer (some ⟨tb k, 0, none⟩), .string low, .func (.func 155) #[] #[.pointer (some ⟨bt, 0, none⟩), .pointer (some ⟨bf, 0, none⟩)], .string y.key, .string y.val, undef, undef, undef, undef, undef, undef, undef, undef, undef, undef, undef, undef, undef, undef, undef, undef, undef, undef, undef, undef, undef, undef], defers := [] }) ?assign ?body ?done ?stop
  case assign =>
    intro l' x W X' Kc hF hk hK
    rw [show encP x = #[.string x.key, .string x.val] from rfl]
    gi_wp2
    exact hK _ _ _ (.inl ⟨rfl, rfl⟩) ⟨rfl, by simp⟩
  case body =>
    rintro l' r pre y X' X1 R' a' W hpy hxx ⟨⟨v, Y, htl, rfl, hrow, hY, hYR⟩, hA⟩ hF ⟨rfl, rfl⟩ hGX hGR h
    have h : PV w0 pp n c V ((w5.heap.size + 1, .loop r) :: (w5.heap.size, .deferred (some [])) :: (X' ++ ((cb, boxO v) :: Y))) W := h
    have k2 := solo_cell (h.mem (x := (b, boxTb tt)) (by simp [hxx (b, boxTb tt) (by simp)]))
    have k3 := solo_cell (h.mem (x := (b + 1, boxIn k)) (by simp [hxx (b + 1, boxIn k) (by simp)]))
    have k4 := solo_cell (h.mem (x := (b + 1 + 1, boxS past)) (by simp [hxx (b + 1 + 1, boxS past) (by simp)]))
    simp only at k2 k3 k4
    have hRX : TabR pp tt tb ((w5.heap.size + 1, .loop r) :: (w5.heap.size, .deferred (some [])) :: (X' ++ ((cb, boxO v) :: Y))) := HX.out.2.1.more fun z hz => by simp [hxx z (by simp [hz])]
    have hlen : pre.length ≤ 1000 := by
      obtain ⟨t, ht⟩ := hpy
      have h1 := congrArg List.length ht
      rw [List.length_append, List.length_append] at h1
      have h2 : (fromR low (RR k)).length ≤ (RR k).length := by
        unfold fromR
        rw [List.length_drop]
        omega
      simp only [List.length_singleton] at h1
      omega
    have HB := Lib.hid (And.intro htl (And.intro hrow (And.intro hY (And.intro hYR (And.intro hA (And.intro hGX (And.intro hGR (And.intro hRX (And.intro hlen (And.intro h hxx))))))))))
    have hcont : ∀ W', PV w0 pp n c V ((w5.heap.size + 1, .loop r) :: (w5.heap.size, .deferred (some [])) :: (X' ++ ((cb, boxO v) :: Y))) W' → Calls Tryz.prog 97 #[.pointer (some ⟨tt, 0, none⟩), .int .i64 k, .string y.key, .string y.val] W' fun e w' => e = .returned (gotV (undO k l y.key y.val)) ∧ PV w0 pp n c V ((w5.heap.size + 1, .loop r) :: (w5.heap.size, .deferred (some [])) :: (X' ++ ((cb, boxO v) :: Y))) w' := fun W' h' => under_any3 h' hRX hn HX.out.2.2.1 HX.out.2.2.2.1 k y.key y.val hF.1 hF.2
    have HU := Lib.hid (hcont W h)
    clear htl hrow hY hYR hA hGX hGR hRX hlen h hcont hxx
    by_cases hp0 : past.size = 0
    · have f0 := text_empty hp0
      have HT := Lib.hid (show tillB past y = true by unfold tillB; rw [decide_eq_true hp0]; rfl)
      clear hp0
      gi_wp2_with fail
      refine ⟨trivial, (((callsIn_wide (n := 6)).2 HU.out).inRound l').mono ?_⟩
      rintro e w6 ⟨rfl, h6⟩
      obtain ⟨htl, hrow, hY, hYR, hA, hGX, hGR, hRX, hlen, _, hxx⟩ := HB.out
      have hall : ∀ p ∈ pre ++ [id y], tillB past p = true := fun p hp => by
        rcases List.mem_append.1 hp with hp | hp
        · exact htl p hp
        · rw [List.mem_singleton] at hp
          rw [hp]
          exact HT.out
      cases ho : undO k l y.key y.val with
      | none =>
        have hst := store_op_new w6 #[Value.int .i64 0, Value.int .i64 0, Value.int .i64 0, Value.int .i64 0, Value.int .i64 0, Value.int .i64 0, Value.int .i64 0, Value.bool false, Value.int .i64 0, Value.int .i64 0, Value.int .i64 0] rfl zeroV
        dsimp only [zeroV] at hst
        have hfm : (pre ++ [id y]).filterMap (fun p => undO k l p.key p.val) = pre.filterMap fun p => undO k l p.key p.val := by
          rw [List.filterMap_append]
          show _ ++ List.filterMap _ [y] = _
          rw [List.filterMap_cons, ho]
          simp
        have HZ : Hid (∃ R'', (LsK R w0.heap.size cb k l past (pre ++ [id y]) R'' ∧ Ap X' R'') ∧ GB w5.heap.size R'' ∧ PV w0 pp n c V ((w5.heap.size + 1, .loop r) :: (w5.heap.size, .deferred (some [])) :: (X' ++ R'')) (w6.alloc (.cells #[Value.int .i64 zeroV.id, Value.int .i64 zeroV.proc, Value.int .i64 zeroV.obj, Value.int .i64 zeroV.kind, Value.int .i64 zeroV.meth, Value.int .i64 zeroV.arg, Value.int .i64 zeroV.sec, Value.bool zeroV.done, Value.int .i64 zeroV.res, Value.int .i64 zeroV.inv, Value.int .i64 zeroV.ret] 32))) := Lib.hid
          ⟨(cb, boxO v) :: Y, ⟨⟨v, Y, hall, rfl, by rw [hfm]; exact hrow, hY, hYR⟩, hA⟩, hGR, (h6.push (opO zeroV)).drop⟩
        dsimp only [zeroV] at HZ
        clear htl hrow hY hYR hA hGX hGR hRX hlen hxx hall ho hfm h6 HU k2 k3 k4
        unfold gotV
        gi_wp2
        exact HZ.out
      | some o =>
        have hst := store_op_new w6 #[Value.int .i64 0, Value.int .i64 0, Value.int .i64 0, Value.int .i64 0, Value.int .i64 0, Value.int .i64 0, Value.int .i64 0, Value.bool false, Value.int .i64 0, Value.int .i64 0, Value.int .i64 0] rfl o
        have h7 := h6.push (opO o)
        have l7 := (h7.opAt (b := w6.heap.size) (x := o) List.mem_cons_self).load
        have hpa := h6.apart rfl rfl (hGX.app hGR)
        have hYf : ∀ z ∈ Y, z.1 < w6.heap.size := fun z hz => h6.lt (x := z) (by simp [hz])
        obtain ⟨g, cap, cur, w8, heq, H8, hr8, hap8⟩ := op_pushR (L := pre.filterMap fun p => undO k l p.key p.val) (v := v) (Rw := Y) (Y := (w6.heap.size, opO o) :: (w5.heap.size + 1, .loop r) :: (w5.heap.size, .deferred (some [])) :: (X' ++ [(cb, boxO v)])) (h7.sub _ fun z hz => by
          simp only [List.mem_append, List.mem_cons, List.not_mem_nil, or_false] at hz ⊢
          rcases hz with h | h | h | h | h | h <;> simp [h]) hrow (fun z hz q hq => by
          simp only [List.mem_append, List.mem_cons, List.not_mem_nil, or_false] at hq
          rcases hq with rfl | rfl | rfl | hq | rfl
          · have := hYf z hz
            simp only; omega
          · exact (hpa.1 z (by simp [hz])).symm
          · exact (hpa.2 z (by simp [hz])).symm
          · exact hA q hq z (by simp [hz])
          · exact (hY z hz).symm) o (by
            have := List.length_filterMap_le (fun p : Pr => undO k l p.key p.val) pre
            omega)
        obtain ⟨n1, n2⟩ := boxO_cell (H8.mem (x := (cb, boxO v)) (by simp))
        have n3 := (boxO_cell (h7.mem (x := (cb, boxO v)) (by simp))).1
        obtain ⟨m, hm⟩ : ∃ m, (pre.filterMap fun p => undO k l p.key p.val).length = m := ⟨_, rfl⟩
        rw [hm] at heq hr8
        have hcbn : ∀ z ∈ (g, rowP cur) :: (w5.heap.size + 1, .loop r) :: (w5.heap.size, .deferred (some [])) :: X', z.1 ≠ cb := fun z hz => by
          simp only [List.mem_cons] at hz
          rcases hz with rfl | rfl | rfl | hz
          · exact fun e => hap8 (cb, boxO v) (by simp) e.symm
          · exact (hpa.1 (cb, boxO v) (by simp)).symm
          · exact (hpa.2 (cb, boxO v) (by simp)).symm
          · exact hA z hz (cb, boxO v) (by simp)
        have H9 := (H8.sub ((cb, boxO v) :: (g, rowP cur) :: (w5.heap.size + 1, .loop r) :: (w5.heap.size, .deferred (some [])) :: X') fun z hz => by
          simp only [List.mem_append, List.mem_cons, List.not_mem_nil, or_false] at hz ⊢
          rcases hz with h | h | h | h | h <;> simp [h]).into hcbn (by decide) hcbl 0 (.slice (some ⟨g, 0, none⟩) (m + 1) cap)
        have hfm : (pre ++ [id y]).filterMap (fun p => undO k l p.key p.val) = (pre.filterMap fun p => undO k l p.key p.val) ++ [o] := by
          rw [List.filterMap_append]
          show _ ++ List.filterMap _ [y] = _
          rw [List.filterMap_cons, ho]
          rfl
        have HZ : Hid (∃ R'', (LsK R w0.heap.size cb k l past (pre ++ [id y]) R'' ∧ Ap X' R'') ∧ GB w5.heap.size R'' ∧ PV w0 pp n c V ((w5.heap.size + 1, .loop r) :: (w5.heap.size, .deferred (some [])) :: (X' ++ R'')) (w8.setCell ⟨cb, 0, none⟩ (.slice (some ⟨g, 0, none⟩) (m + 1) cap))) := Lib.hid
          ⟨(cb, boxO (.slice (some ⟨g, 0, none⟩) (m + 1) cap)) :: [(g, rowP cur)], ⟨⟨_, [(g, rowP cur)], hall, rfl, by rw [hfm]; exact hr8, fun z hz => by
            rw [List.mem_singleton] at hz
            rw [hz]
            exact hcbn (g, rowP cur) (by simp), fun z hz q hq => by
            rw [List.mem_singleton] at hz
            rw [hz]
            exact hap8 q (by simp [hxx q (by simp [hq])])⟩, fun z hz q hq => by
            simp only [List.mem_cons, List.not_mem_nil, or_false] at hq
            rcases hq with rfl | rfl
            · exact hA z hz (cb, boxO v) (by simp)
            · exact hap8 z (by simp [hz])⟩, fun z hz => by
            simp only [List.mem_cons, List.not_mem_nil, or_false] at hz
            rcases hz with rfl | rfl
            · exact .inl rfl
            · exact .inl rfl, H9.sub _ fun z hz => by
            simp only [List.mem_append, List.mem_cons, List.not_mem_nil, or_false] at hz ⊢
            rcases hz with h | h | h | h | h
            · simp [h]
            · simp [h]
            · simp [h]
            · exact .inl (by rw [h]; rfl)
            · simp [h]⟩
        rw [World.size_alloc] at heq
        unfold opO at heq l7 n3
        clear htl hrow hY hYR hA hGX hGR hRX hlen hxx hall ho hfm h6 h7 hpa hYf H8 hr8 hap8 hcbn H9 HU k2 k3 k4 hm
        unfold gotV
        gi_wp2
        exact HZ.out
    · have f0 := text_zero hp0
      cases hb : Op.bytesLess y.key.toList past.toList with
      | false =>
        have HT := Lib.hid (show tillB past y = false by unfold tillB lessB; rw [decide_eq_false hp0, hb]; rfl)
        clear hp0 HU
        gi_wp2
        exact ⟨_, ⟨⟨rfl, pre, id y, rfl, HT.out, v, Y, HB.out.1, rfl, HB.out.2.1, HB.out.2.2.1, HB.out.2.2.2.1⟩, HB.out.2.2.2.2.1⟩, HB.out.2.2.2.2.2.2.1, HB.out.2.2.2.2.2.2.2.2.2.1⟩
      | true =>
        have HT := Lib.hid (show tillB past y = true by unfold tillB lessB; rw [hb, Bool.or_true])
        clear hp0
        gi_wp2_with fail
        refine ⟨trivial, (((callsIn_wide (n := 6)).2 HU.out).inRound l').mono ?_⟩
        rintro e w6 ⟨rfl, h6⟩
        obtain ⟨htl, hrow, hY, hYR, hA, hGX, hGR, hRX, hlen, _, hxx⟩ := HB.out
        have hall : ∀ p ∈ pre ++ [id y], tillB past p = true := fun p hp => by
          rcases List.mem_append.1 hp with hp | hp
          · exact htl p hp
          · rw [List.mem_singleton] at hp
            rw [hp]
            exact HT.out
        cases ho : undO k l y.key y.val with
        | none =>
          have hst := store_op_new w6 #[Value.int .i64 0, Value.int .i64 0, Value.int .i64 0, Value.int .i64 0, Value.int .i64 0, Value.int .i64 0, Value.int .i64 0, Value.bool false, Value.int .i64 0, Value.int .i64 0, Value.int .i64 0] rfl zeroV
          dsimp only [zeroV] at hst
          have hfm : (pre ++ [id y]).filterMap (fun p => undO k l p.key p.val) = pre.filterMap fun p => undO k l p.key p.val := by
            rw [List.filterMap_append]
            show _ ++ List.filterMap _ [y] = _
            rw [List.filterMap_cons, ho]
            simp
          have HZ : Hid (∃ R'', (LsK R w0.heap.size cb k l past (pre ++ [id y]) R'' ∧ Ap X' R'') ∧ GB w5.heap.size R'' ∧ PV w0 pp n c V ((w5.heap.size + 1, .loop r) :: (w5.heap.size, .deferred (some [])) :: (X' ++ R'')) (w6.alloc (.cells #[Value.int .i64 zeroV.id, Value.int .i64 zeroV.proc, Value.int .i64 zeroV.obj, Value.int .i64 zeroV.kind, Value.int .i64 zeroV.meth, Value.int .i64 zeroV.arg, Value.int .i64 zeroV.sec, Value.bool zeroV.done, Value.int .i64 zeroV.res, Value.int .i64 zeroV.inv, Value.int .i64 zeroV.ret] 32))) := Lib.hid
            ⟨(cb, boxO v) :: Y, ⟨⟨v, Y, hall, rfl, by rw [hfm]; exact hrow, hY, hYR⟩, hA⟩, hGR, (h6.push (opO zeroV)).drop⟩
          dsimp only [zeroV] at HZ
          clear htl hrow hY hYR hA hGX hGR hRX hlen hxx hall ho hfm h6 HU k2 k3 k4
          unfold gotV
          gi_wp2
          exact HZ.out
        | some o =>
          have hst := store_op_new w6 #[Value.int .i64 0, Value.int .i64 0, Value.int .i64 0, Value.int .i64 0, Value.int .i64 0, Value.int .i64 0, Value.int .i64 0, Value.bool false, Value.int .i64 0, Value.int .i64 0, Value.int .i64 0] rfl o
          have h7 := h6.push (opO o)
          have l7 := (h7.opAt (b := w6.heap.size) (x := o) List.mem_cons_self).load
          have hpa := h6.apart rfl rfl (hGX.app hGR)
          have hYf : ∀ z ∈ Y, z.1 < w6.heap.size := fun z hz => h6.lt (x := z) (by simp [hz])
          obtain ⟨g, cap, cur, w8, heq, H8, hr8, hap8⟩ := op_pushR (L := pre.filterMap fun p => undO k l p.key p.val) (v := v) (Rw := Y) (Y := (w6.heap.size, opO o) :: (w5.heap.size + 1, .loop r) :: (w5.heap.size, .deferred (some [])) :: (X' ++ [(cb, boxO v)])) (h7.sub _ fun z hz => by
            simp only [List.mem_append, List.mem_cons, List.not_mem_nil, or_false] at hz ⊢
            rcases hz with h | h | h | h | h | h <;> simp [h]) hrow (fun z hz q hq => by
            simp only [List.mem_append, List.mem_cons, List.not_mem_nil, or_false] at hq
            rcases hq with rfl | rfl | rfl | hq | rfl
            · have := hYf z hz
              simp only; omega
            · exact (hpa.1 z (by simp [hz])).symm
            · exact (hpa.2 z (by simp [hz])).symm
            · exact hA q hq z (by simp [hz])
            · exact (hY z hz).symm) o (by
              have := List.length_filterMap_le (fun p : Pr => undO k l p.key p.val) pre
              omega)
          obtain ⟨n1, n2⟩ := boxO_cell (H8.mem (x := (cb, boxO v)) (by simp))
          have n3 := (boxO_cell (h7.mem (x := (cb, boxO v)) (by simp))).1
          obtain ⟨m, hm⟩ : ∃ m, (pre.filterMap fun p => undO k l p.key p.val).length = m := ⟨_, rfl⟩
          rw [hm] at heq hr8
          have hcbn : ∀ z ∈ (g, rowP cur) :: (w5.heap.size + 1, .loop r) :: (w5.heap.size, .deferred (some [])) :: X', z.1 ≠ cb := fun z hz => by
            simp only [List.mem_cons] at hz
            rcases hz with rfl | rfl | rfl | hz
            · exact fun e => hap8 (cb, boxO v) (by simp) e.symm
            · exact (hpa.1 (cb, boxO v) (by simp)).symm
            · exact (hpa.2 (cb, boxO v) (by simp)).symm
            · exact hA z hz (cb, boxO v) (by simp)
          have H9 := (H8.sub ((cb, boxO v) :: (g, rowP cur) :: (w5.heap.size + 1, .loop r) :: (w5.heap.size, .deferred (some [])) :: X') fun z hz => by
            simp only [List.mem_append, List.mem_cons, List.not_mem_nil, or_false] at hz ⊢
            rcases hz with h | h | h | h | h <;> simp [h]).into hcbn (by decide) hcbl 0 (.slice (some ⟨g, 0, none⟩) (m + 1) cap)
          have hfm : (pre ++ [id y]).filterMap (fun p => undO k l p.key p.val) = (pre.filterMap fun p => undO k l p.key p.val) ++ [o] := by
            rw [List.filterMap_append]
            show _ ++ List.filterMap _ [y] = _
            rw [List.filterMap_cons, ho]
            rfl
          have HZ : Hid (∃ R'', (LsK R w0.heap.size cb k l past (pre ++ [id y]) R'' ∧ Ap X' R'') ∧ GB w5.heap.size R'' ∧ PV w0 pp n c V ((w5.heap.size + 1, .loop r) :: (w5.heap.size, .deferred (some [])) :: (X' ++ R'')) (w8.setCell ⟨cb, 0, none⟩ (.slice (some ⟨g, 0, none⟩) (m + 1) cap))) := Lib.hid
            ⟨(cb, boxO (.slice (some ⟨g, 0, none⟩) (m + 1) cap)) :: [(g, rowP cur)], ⟨⟨_, [(g, rowP cur)], hall, rfl, by rw [hfm]; exact hr8, fun z hz => by
              rw [List.mem_singleton] at hz
              rw [hz]
              exact hcbn (g, rowP cur) (by simp), fun z hz q hq => by
              rw [List.mem_singleton] at hz
              rw [hz]
              exact hap8 q (by simp [hxx q (by simp [hq])])⟩, fun z hz q hq => by
              simp only [List.mem_cons, List.not_mem_nil, or_false] at hq
              rcases hq with rfl | rfl
              · exact hA z hz (cb, boxO v) (by simp)
              · exact hap8 z (by simp [hz])⟩, fun z hz => by
              simp only [List.mem_cons, List.not_mem_nil, or_false] at hz
              rcases hz with rfl | rfl
              · exact .inl rfl
              · exact .inl rfl, H9.sub _ fun z hz => by
              simp only [List.mem_append, List.mem_cons, List.not_mem_nil, or_false] at hz ⊢
              rcases hz with h | h | h | h | h
              · simp [h]
              · simp [h]
              · simp [h]
              · exact .inl (by rw [h]; rfl)
              · simp [h]⟩
          rw [World.size_alloc] at heq
          unfold opO at heq l7 n3
          clear htl hrow hY hYR hA hGX hGR hRX hlen hxx hall ho hfm h6 h7 hpa hYf H8 hr8 hap8 hcbn H9 HU k2 k3 k4 hm
          unfold gotV
          gi_wp2
          exact HZ.out
  case done =>
    rintro xs R' W rfl ⟨v, Y, htl, rfl, hrow, hY, hYR⟩ h hne
    have h3 := h.obj (o' := .deferred none) hne rfl rfl H6.below.size
    have hd := h.mem (x := (w5.heap.size, .deferred (some []))) (by simp)
    have k1 := (boxO_cell (h.mem (x := (cb, boxO v)) (by simp))).1
    have hsel : selR low past (RR k) = fromR low (RR k) := by rw [from_sel HQ.out.2.2, till_all htl]
    have HP := Lib.hid (And.intro (h3.sub (Y ++ R) fun y hy => by
      simp only [List.mem_append, List.mem_cons, List.cons_append] at hy ⊢
      rcases hy with h | h <;> simp [h]) (And.intro hd (And.intro hrow (And.intro hsel hYR))))
    clear h h3 hd hne hsel hrow hY hYR htl
    go_wp2_with fail
    refine ⟨by simp, .inl ⟨_, _, rfl, run_takeDeferred HP.out.2.1, ?_⟩⟩
    exact ⟨v, by simp [results, Tryz.results44, go_sem], v, Y, rfl, by rw [HP.out.2.2.2.1]; exact HP.out.2.2.1, HP.out.1, HP.out.2.2.2.2⟩
  case stop =>
    rintro cd xs R' W hSp ⟨rfl, A, q, rfl, hq, v, Y, htl, rfl, hrow, hY, hYR⟩ h hne
    have h3 := h.obj (o' := .deferred none) hne rfl rfl H6.below.size
    have hd := h.mem (x := (w5.heap.size, .deferred (some []))) (by simp)
    have k1 := (boxO_cell (h.mem (x := (cb, boxO v)) (by simp))).1
    have hsel : selR low past (RR k) = A := by
      obtain ⟨t, ht⟩ := hSp
      rw [List.append_assoc] at ht
      have hs : Srt (fromR low (RR k)) := srt_sub HQ.out.2.2 (List.drop_sublist _ _)
      rw [from_sel HQ.out.2.2, ← ht]
      rw [← ht] at hs
      exact till_end hs htl hq
    have HP := Lib.hid (And.intro (h3.sub (Y ++ R) fun y hy => by
      simp only [List.mem_append, List.mem_cons, List.cons_append] at hy ⊢
      rcases hy with h | h <;> simp [h]) (And.intro hd (And.intro hrow (And.intro hsel hYR))))
    clear h h3 hd hne hsel hrow hY hYR htl hSp hq
    gi_wp2
    go_wp2_with fail
    refine ⟨by simp, .inl ⟨_, _, rfl, run_takeDeferred HP.out.2.1, ?_⟩⟩
    exact ⟨v, by simp [results, Tryz.results44, go_sem], v, Y, rfl, by rw [HP.out.2.2.2.1]; exact HP.out.2.2.1, HP.out.1, HP.out.2.2.2.2⟩
end
end Go.Proofs.YtcjfnfdinhbdlaaGreatDoor
namespace Go.Proofs.YtcjfnfdinhbdlaaGreatDoor
set_option maxRecDepth 100000
open Go.ChangeShapes Go.WideShapes Go.ChangeAt Go.RowKit Go.PlainAid Go.Deep
attribute [local go_sem ↓ high] load_op store_o app_opO
attribute [local go_sem] Oper.semAt_some
theorem eq_yieldO (fn : Fn) (a b : Array Value) (w : World) : (binOp .eql 47 (.func fn a b) .nilFunc).run Tryz.prog w = .ok (.bool false) w := by kernel_rfl
def TakeO (w0 : World) (pp n c : Nat) (V : Int → ByteArray) (K Kx : List OpV → List (Nat × Obj) → Prop) (X : List (Nat × Obj)) (pre : List OpV) (o : OpV) (e : Ending) (W' : World) : Prop :=
  (e = .returned (.bool true) ∧ ∃ Rc', (K (pre ++ [o]) Rc' ∧ Ap X Rc') ∧ PV w0 pp n c V (X ++ Rc') W') ∨ (e = .returned (.bool false) ∧ ∃ Rc', (Kx (pre ++ [o]) Rc' ∧ Ap X Rc') ∧ PV w0 pp n c V (X ++ Rc') W')
def TakesO (w0 : World) (pp n c : Nat) (V : Int → ByteArray) (f : FuncId) (caps : Array Value) (K Kx : List OpV → List (Nat × Obj) → Prop) : Prop :=
  ∀ (pre : List OpV) (X Rc : List (Nat × Obj)) (o : OpV) (W : World), K pre Rc ∧ Ap X Rc → PV w0 pp n c V (X ++ Rc) W →
    Calls Tryz.prog f (#[Value.agg #[Value.int .i64 o.id, Value.int .i64 o.proc, Value.int .i64 o.obj, Value.int .i64 o.kind, Value.int .i64 o.meth, Value.int .i64 o.arg, Value.int .i64 o.sec, Value.bool o.done, Value.int .i64 o.res, Value.int .i64 o.inv, Value.int .i64 o.ret]] ++ caps) W (TakeO w0 pp n c V K Kx X pre o)
def GivenPost (w0 : World) (pp n c : Nat) (V : Int → ByteArray) (K Kx : List OpV → List (Nat × Obj) → Prop) (X : List (Nat × Obj)) (L : List OpV) (e : Ending) (W' : World) : Prop :=
  e = .returned (.tuple #[]) ∧ ∃ Rc', PV w0 pp n c V (X ++ Rc') W' ∧ ((K L Rc' ∧ Ap X Rc') ∨ ∃ k, k < L.length ∧ Kx (L.take (k + 1)) Rc' ∧ Ap X Rc')
section
variable {w0 w w' : World} {pp n c tt : Nat} {tb : Nat → Nat} {V : Int → ByteArray} {R : List (Nat × Obj)} {u0 : Nat} {RR : Nat → List Pr} {QQ : Nat → List Int} {l : List OpV}
def selO (k : Nat) (low past : ByteArray) (l : List OpV) (R : List Pr) : List OpV := (selR low past R).filterMap fun p => undO k l p.key p.val
theorem sel_own {k : Nat} {low past : ByteArray} {l : List OpV} {R : List Pr} (h : IsW k l R) (hk : OpsK l) : (∀ o ∈ selO k low past l R, o ∈ l) ∧ (selO k low past l R).map (prW k) = selR low past R := by
  obtain ⟨L, hL, hm, _⟩ := h.ops hk
  have key : ∀ A : List OpV, (∀ o ∈ A, o ∈ l) → (A.map (prW k)).filterMap (fun p => undO k l p.key p.val) = A := by
    intro A
    induction A with
    | nil => intro _; rfl
    | cons a A ih =>
      intro hA
      have h1 : undO k l (prW (k : Int) a).key (prW (k : Int) a).val = some a := und_own hk (hA a List.mem_cons_self) k
      rw [List.map_cons, List.filterMap_cons, h1, ih fun o ho => hA o (List.mem_cons_of_mem _ ho)]
  have h2 : selR low past R = (L.filter fun o => inK low past (wayS k o)).map (prW k) := by
    unfold selR
    rw [hL, List.filter_map]
    rfl
  have h3 : ∀ o ∈ L.filter fun o => inK low past (wayS k o), o ∈ l := fun o ho => (hm o).1 (List.mem_filter.1 ho).1
  unfold selO
  rw [h2, key _ h3]
  exact ⟨h3, rfl⟩
set_option maxHeartbeats 8000000 in
theorem given1_any {f : FuncId} {caps : Array Value} {K Kx : List OpV → List (Nat × Obj) → Prop} (hf : ∀ args w, (callFunc f args).run Tryz.prog w = .ok (.enter f args) w) (hY : TakesO w0 pp n c V f caps K Kx) (hn : 1 < n) (hT : TabV V n u0 l RR QQ) (hW : ∀ o ∈ l, o.Wf) (hRu : RulesAt w0) (k : Nat) (hk5 : k < 5) (low past : ByteArray) (hlk : low.size ≤ 65536) (hl : l.length ≤ 1000)
    (bt bk bl bp : Nat) (X Rc : List (Nat × Obj)) (hR : TabR pp tt tb X) (h1 : (bt, boxTb tt) ∈ X) (h2 : (bk, boxIn k) ∈ X) (h3 : (bl, boxS low) ∈ X) (h4 : (bp, boxS past) ∈ X) (hK : K [] Rc ∧ Ap X Rc) (H : PV w0 pp n c V (X ++ Rc) w) :
    Calls Tryz.prog 99 #[.func (.func f) #[] caps, .pointer (some ⟨bt, 0, none⟩), .pointer (some ⟨bk, 0, none⟩), .pointer (some ⟨bl, 0, none⟩), .pointer (some ⟨bp, 0, none⟩)] w (GivenPost w0 pp n c V K Kx X (selO k low past l (RR k))) := by
  have hnil := eq_yieldO
  have c1 := solo_cell (H.mem (x := (bt, boxTb tt)) (by simp [h1]))
  have c2 := solo_cell (H.mem (x := (bk, boxIn k)) (by simp [h2]))
  have c3 := boxS_cell (H.mem (x := (bl, boxS low)) (by simp [h3]))
  have c4 := boxS_cell (H.mem (x := (bp, boxS past)) (by simp [h4]))
  simp only at c1 c2 c3 c4
  have HL := Lib.hid (list_any H (hR.more fun y hy => List.mem_append_left _ hy) hn hT hRu k hk5 low past hlk hl)
  have hsel := (sel_own (low := low) (past := past) (hT.is k hk5) hT.ok).1
  have hlen : (selO k low past l (RR k)).length ≤ 1000 := by
    unfold selO
    refine Nat.le_trans (List.length_filterMap_le _ _) ?_
    unfold selR
    refine Nat.le_trans (List.length_filter_le _ _) ?_
    rw [hT.len hk5]
    exact hl
  change Hid (Calls Tryz.prog _ _ w (ListPost w0 pp n c V (X ++ Rc) (selO k low past l (RR k)))) at HL
  obtain ⟨L, hL⟩ : ∃ L, selO k low past l (RR k) = L := ⟨_, rfl⟩
  rw [hL] at HL hsel hlen ⊢
  have HWf : Hid (∀ o ∈ L, o.Wf) := Lib.hid fun o ho => hW o (hsel o ho)
  have HKK := Lib.hid (And.intro hK hRu)
  clear hR h1 h2 h3 h4 H hT hsel hL hK hRu hW
  go_enter Tryz.func99, Tryz.ntmps99
  go_wp2_with fail
  refine HL.out.mono ?_
  rintro e w1 ⟨v, Y, rfl, hrow, HP, hYR⟩
  obtain ⟨ao, cap, rfl⟩ : ∃ ao cap, v = .slice ao L.length cap := by
    rcases hrow with ⟨rfl, rfl, _⟩ | ⟨g, cap, _, rfl, _⟩
    · exact ⟨_, _, rfl⟩
    · exact ⟨_, _, rfl⟩
  have HP1 : Hid (PV w0 pp n c V ((Y ++ X) ++ Rc) w1 ∧ Ap (Y ++ X) Rc ∧ OpR w0.heap.size L (.slice ao L.length cap) Y) := Lib.hid ⟨by rw [List.append_assoc]; exact HP, fun z hz y hy => by
    rcases List.mem_append.1 hz with hz | hz
    · exact (hYR z hz y (List.mem_append_right _ hy)).symm
    · exact HKK.out.1.2 z hz y hy, hrow⟩
  clear HL HP hYR hrow c1 c2 c3 c4
  go_wp2_with fail
  go_loopw [16] (fun s16 wr => ∃ (i : Nat) (Rc' : List (Nat × Obj)), s16 = .int .i64 i ∧ i ≤ L.length ∧ Hid ((K (L.take i) Rc' ∧ Ap (Y ++ X) Rc') ∧ PV w0 pp n c V ((Y ++ X) ++ Rc') wr)) (fun s16 _ => L.length - (intOf s16).toNat)
  case atStart => exact ⟨0, Rc, rfl, Nat.zero_le _, Lib.hid ⟨⟨by rw [List.take_zero]; exact HKK.out.1.1, HP1.out.2.1⟩, HP1.out.1⟩⟩
  case round =>
    obtain ⟨i, Rc', rfl, hi, HI⟩ := hrel
    by_cases hil : i < L.length
    · obtain ⟨x, hx⟩ : ∃ x, L[i]? = some x := ⟨_, List.getElem?_eq_getElem hil⟩
      have hH : OpsOf wr (.slice ao L.length cap) L := (HP1.out.2.2.own HI.out.2 fun y hy => by simp [hy]).reads HWf.out
      obtain ⟨b, p, cap', hv, hblt, hwf, hcc⟩ := OpsOf.at hH hx
      have e0 : ao = some ⟨b, p, none⟩ := by cases hv; rfl
      have l1 := load_cellsO (p := p + i * 11) hcc
      have s1 := store_op_new wr (#[Value.int .i64 0, Value.int .i64 0, Value.int .i64 0, Value.int .i64 0, Value.int .i64 0, Value.int .i64 0, Value.int .i64 0, Value.bool false, Value.int .i64 0, Value.int .i64 0, Value.int .i64 0]) rfl x
      have q1 : decide ((i : Int) < (L.length : Int)) = true := decide_eq_true (by omega)
      have q2 : (i : Int) < (L.length : Int) := by omega
      have q3 : IntKind.i64.wrap ((i : Int) + 1) = (i : Int) + 1 := IntWalk.i64_in _ (by omega)
      have q4 : (0 : Int) ≤ (i : Int) := by omega
      have H2 := HI.out.2.push (opO x)
      have l2 := (H2.opAt (b := wr.heap.size) (x := x) List.mem_cons_self).load
      have HAP : Hid (Ap ((wr.heap.size, opO x) :: (Y ++ X)) Rc') := Lib.hid (HI.out.1.2.push HI.out.2 _)
      have HTK : Hid (L.take (i + 1) = L.take i ++ [x]) := Lib.hid (take_snoc2 hx)
      obtain ⟨W2, hW2⟩ : ∃ W2, wr.alloc (opO x) = W2 := ⟨_, rfl⟩
      have hW2' : wr.alloc (.cells #[Value.int .i64 x.id, Value.int .i64 x.proc, Value.int .i64 x.obj, Value.int .i64 x.kind, Value.int .i64 x.meth, Value.int .i64 x.arg, Value.int .i64 x.sec, Value.bool x.done, Value.int .i64 x.res, Value.int .i64 x.inv, Value.int .i64 x.ret] 32) = W2 := hW2
      rw [hW2] at H2 l2
      rw [hW2'] at s1
      have HP2 := Lib.hid H2
      have HK := Lib.hid hil
      subst e0
      clear hv hblt hwf hcc hx hi hil hW2 hW2' H2 hH
      go_wp2_with fail
      refine (hY (L.take i) ((wr.heap.size, opO x) :: (Y ++ X)) Rc' x W2 ⟨HI.out.1.1, HAP.out⟩ HP2.out).mono ?_
      rintro e w3 hpost
      rcases hpost with ⟨rfl, Rc2, ⟨h1, h2⟩, h3⟩ | ⟨rfl, Rc2, ⟨h1, h2⟩, h3⟩
      · have HZ : Hid ((K (L.take (i + 1)) Rc2 ∧ Ap (Y ++ X) Rc2) ∧ PV w0 pp n c V ((Y ++ X) ++ Rc2) w3) := Lib.hid ⟨⟨by rw [HTK.out]; exact h1, h2.tail⟩, h3.drop⟩
        clear h1 h2 h3 l2 hY hf
        go_wp2_with fail
        go_roundw
        case measure => have := HK.out; simp [intOf]; omega
        case rel => exact ⟨i + 1, Rc2, by simp, HK.out, HZ⟩
      · have HZ : Hid (GivenPost w0 pp n c V K Kx X L (.returned (.tuple #[])) w3) := Lib.hid ⟨rfl, Rc2, h3.sub _ fun y hy => by
          simp only [List.mem_append, List.mem_cons] at hy ⊢
          rcases hy with h | h
          · exact .inl (.inr (.inr h))
          · exact .inr h, .inr ⟨i, HK.out, by rw [HTK.out]; exact h1, fun z hz y hy => h2 z (List.mem_cons_of_mem _ (List.mem_append_right _ hz)) y hy⟩⟩
        clear h1 h2 h3 l2 hY hf
        go_wp2_with fail
        go_returns
        exact HZ.out
    · have q1 : decide ((i : Int) < (L.length : Int)) = false := decide_eq_false (by omega)
      have q2 : ((i : Int) < (L.length : Int)) = False := eq_false (by omega)
      have HE : Hid (GivenPost w0 pp n c V K Kx X L (.returned (.tuple #[])) wr) := Lib.hid ⟨rfl, Rc', HI.out.2.sub _ fun y hy => by
        simp only [List.mem_append] at hy ⊢
        rcases hy with h | h
        · exact .inl (.inr h)
        · exact .inr h, .inl ⟨by have := HI.out.1.1; rw [List.take_of_length_le (by omega)] at this; exact this, fun z hz y hy => HI.out.1.2 z (List.mem_append_right _ hz) y hy⟩⟩
      clear hi hil
      go_wp2_with fail
      go_returns
      exact HE.out
end
end Go.Proofs.YtcjfnfdinhbdlaaGreatDoor
