/- The document's answers for package cut: Sorted. -/
import Derived.Test.YtgedlfilhpbfaaaCuV
namespace Go.Proofs.Ytgedlfilhpbfaaa
set_option maxRecDepth 100000
open Go.ChangeShapes Go.WideShapes Go.ChangeAt Go.RowKit Go.PlainAid Go.Deep Go.Shelf Go.Sort
namespace Cu
attribute [local go_sem ↓ high] load_op store_o load_s app_opO
theorem own_cap {n₀ : Nat} {W : World} {ao : Option Addr} {m cap : Nat} {L : List OpV} (h : OpsOwn n₀ W (.slice ao m cap) L) : m = L.length ∧ L.length ≤ cap ∧ (ao = none → L = []) ∧ ∀ g p, ao = some ⟨g, p, none⟩ → p = 0 := by
  rcases h.2 with ⟨e, h0⟩ | ⟨g, c, cur, e, _, _, hl, _⟩
  · obtain ⟨e1, e2, e3⟩ := Value.slice.inj e
    have : L = [] := List.length_eq_zero_iff.1 h0
    subst this
    exact ⟨e2, Nat.zero_le _, fun _ => rfl, fun g p e => by rw [e1] at e; cases e⟩
  · obtain ⟨e1, e2, e3⟩ := Value.slice.inj e
    exact ⟨e2, by omega, (fun h => by rw [h] at e1; cases e1), fun g' p e => by rw [e1] at e; cases e; rfl⟩
theorem ops_take {W : World} {ao : Option Addr} {cap : Nat} {L : List OpV} (h : OpsOf W (.slice ao L.length cap) L) {n : Nat} (hn : n ≤ L.length) (c : Nat) : OpsOf W (.slice ao n c) (L.take n) := by
  refine ⟨?_, fun o ho => h.2 o (List.mem_of_mem_take ho)⟩
  by_cases h0 : n = 0
  · subst h0
    exact .inl ⟨by simp, _, _, rfl⟩
  · rcases h.1 with ⟨rfl, _⟩ | ⟨b, p, cap', e, hlt, _, hr⟩
    · simp at hn; omega
    · obtain ⟨e1, _, _⟩ := Value.slice.inj e
      subst e1
      refine .inr ⟨b, p, c, by rw [List.length_take, Nat.min_eq_left hn], hlt, by rw [List.length_take]; omega, fun i o hi => hr i o ?_⟩
      rw [List.getElem?_take] at hi
      split at hi
      · exact hi
      · cases hi
theorem ops_drop {W : World} {b p cap : Nat} {L : List OpV} (h : OpsOf W (.slice (some ⟨b, p, none⟩) L.length cap) L) {n : Nat} (hn : n < L.length) (c : Nat) : OpsOf W (.slice (some ⟨b, p + n * 11, none⟩) (L.length - n) c) (L.drop n) := by
  refine ⟨?_, fun o ho => h.2 o (List.mem_of_mem_drop ho)⟩
  rcases h.1 with ⟨rfl, _⟩ | ⟨b', p', cap', e, hlt, _, hr⟩
  · simp at hn
  · obtain ⟨e1, _, _⟩ := Value.slice.inj e
    cases e1
    refine .inr ⟨b, p + n * 11, c, by rw [List.length_drop], hlt, by rw [List.length_drop]; omega, fun i o hi j u hj => ?_⟩
    rw [List.getElem?_drop] at hi
    have := hr (n + i) o hi j u hj
    rwa [show p + n * 11 + i * 11 + j = p + (n + i) * 11 + j by rw [Nat.add_mul]; omega]
/-- One put in its place. -/
theorem sorted_put {P S : List OpV} {o : OpV} {n : Nat} (h : Sorted cfInv P S) (hn : n ≤ S.length) (h1 : ∀ (t : Nat) (x : OpV), t < n → S[t]? = some x → ltO cfInv o x = false) (h2 : ∀ x, S[n]? = some x → ltO cfInv o x = true) : Sorted cfInv (P ++ [o]) (S.take n ++ [o] ++ S.drop n) := by
  obtain ⟨hp, hs⟩ := h
  have lo : ∀ x ∈ S.take n, ltO cfInv o x = false := fun x hx => by
    obtain ⟨t, ht, rfl⟩ := List.mem_iff_getElem.1 hx
    rw [List.length_take] at ht
    rw [List.getElem_take]
    exact h1 t _ (by omega) (List.getElem?_eq_getElem (by omega))
  have hi : ∀ x ∈ S.drop n, ltO cfInv x o = false := fun x hx => by
    obtain ⟨t, ht, rfl⟩ := List.mem_iff_getElem.1 hx
    rw [List.length_drop] at ht
    rw [List.getElem_drop]
    have h3 := h2 _ (List.getElem?_eq_getElem (show n < S.length by omega))
    by_cases c : t = 0
    · subst c
      exact ord_inv.as _ _ h3
    · have h4 := List.pairwise_iff_getElem.1 hs n (n + t) (by omega) (by omega) (by omega)
      exact ord_inv.tr _ _ _ h4 (ord_inv.as _ _ h3)
  refine ⟨?_, ?_⟩
  · have e : (S.take n ++ [o] ++ S.drop n).Perm (S ++ [o]) := by
      rw [List.append_assoc]
      refine (List.Perm.append_left _ List.perm_append_comm).trans ?_
      rw [← List.append_assoc, List.take_append_drop]
    exact e.trans (hp.append_right _)
  · rw [List.pairwise_append, List.pairwise_append]
    refine ⟨⟨hs.sublist (List.take_sublist _ _), by simp, fun a ha b hb => by rw [List.mem_singleton.1 hb]; exact lo a ha⟩, hs.sublist (List.drop_sublist _ _), fun a ha b hb => ?_⟩
    rcases List.mem_append.1 ha with ha | ha
    · have := hs
      rw [← List.take_append_drop n S, List.pairwise_append] at this
      exact this.2.2 a ha b hb
    · rw [List.mem_singleton.1 ha]; exact hi b hb
theorem own_form {n₀ : Nat} {W : World} {v : Value} {L : List OpV} (h : OpsOwn n₀ W v L) : ∃ ao m cap, v = .slice ao m cap := by
  rcases h.2 with ⟨rfl, _⟩ | ⟨g, cap, cur, rfl, _⟩
  · exact ⟨_, _, _, rfl⟩
  · exact ⟨_, _, _, rfl⟩
def RsI (w wr : World) (l : List OpV) (i : Nat) (v : Value) (S : List OpV) : Prop := OpsOwn w.heap.size wr v S ∧ Sorted cfInv (l.take i) S ∧ Below w.heap.size w wr
set_option maxHeartbeats 1000000 in
theorem rsorted_any {v : Value} {l : List OpV} {w : World} (h : OpsOf w v l) (hl : l.length ≤ 65536) : Calls Try.prog 21 #[v] w fun e w' => ∃ v', e = .returned v' ∧ ∃ S, OpsOwn w.heap.size w' v' S ∧ Sorted cfInv l S ∧ Below w.heap.size w w' := by
  obtain ⟨ao, ac, rfl⟩ := h.len
  have H := Lib.hid h
  have HI0 := Lib.hid (show RsI w w l 0 (.slice none 0 0) [] from ⟨World.ownsRow_nil _ _ _ _, ⟨by simp, List.Pairwise.nil⟩, Below.refl _ _⟩)
  clear h
  go_enter Try.func21, Try.ntmps21
  go_wp2_with fail
  go_loopw [3, 4] (fun s3 s4 wr => ∃ (i : Nat) (aA : Option Addr) (cA : Nat) (S : List OpV), s4 = .int .i64 i ∧ s3 = .slice aA S.length cA ∧ i ≤ l.length ∧ Hid (RsI w wr l i (.slice aA S.length cA) S)) (fun _ s4 _ => l.length - (intOf s4).toNat)
  case atStart => exact ⟨0, none, 0, [], rfl, rfl, Nat.zero_le _, HI0⟩
  case round =>
    clear HI0
    obtain ⟨i, aA, cA, S, rfl, rfl, hi, HI⟩ := hrel
    by_cases hil : i < l.length
    case neg =>
      obtain rfl : i = l.length := by omega
      have q1 : ¬ ((l.length : Int) < (l.length : Int)) := by omega
      go_wp2_with fail
      go_returns
      obtain ⟨h1, h2, h3⟩ := HI.out
      rw [List.take_length] at h2
      exact ⟨_, rfl, S, h1, h2, h3⟩
    have q1 : (i : Int) < (l.length : Int) := by omega
    have q2 : IntKind.i64.wrap ((i : Int) + 1) = (i : Int) + 1 := IntWalk.i64_in _ (by omega)
    obtain ⟨o, hok⟩ : ∃ o, l[i]? = some o := ⟨_, List.getElem?_eq_getElem hil⟩
    have HO := Lib.hid hok
    have hwo : o.Wf := H.out.2 o (List.mem_of_getElem? hok)
    have HWO := Lib.hid hwo
    obtain ⟨hown, hsrt, hbel⟩ := HI.out
    have hSl : S.length ≤ 65536 := by have := hsrt.1.length_eq; rw [List.length_take] at this; omega
    have HWS := Lib.hid (show ∀ x ∈ S, x.Wf from fun x hx => H.out.2 x (List.mem_of_mem_take (hsrt.1.mem_iff.1 hx)))
    have HRD := Lib.hid (hown.reads HWS.out)
    have hcap := (own_cap hown).2.1
    have HB := Lib.hid hbel
    have HSRT := Lib.hid hsrt
    have HFORM := hown.2
    clear HI hok hwo hown hsrt hbel
    rcases HFORM with ⟨e, h0⟩ | ⟨g, cap, cur, e, hng, hg, hlc, hcm, hsz, hrow⟩
    · obtain ⟨rfl, _, rfl⟩ := Value.slice.inj e
      obtain rfl : S = [] := List.length_eq_zero_iff.1 h0
      clear e h0
      obtain ⟨w1, hw1⟩ : ∃ W, wr = W := ⟨_, rfl⟩
      have HW1 := Lib.hid hw1
      have HN0 := Lib.hid (show Below w1.heap.size w1 wr ∧ ∀ (t : Nat) (x : OpV), t < 0 → ([] : List OpV)[t]? = some x → ltO cfInv o x = false from ⟨by rw [hw1]; exact Below.refl _ _, fun t x ht => by omega⟩)
      rw [hw1] at HB HRD
      clear hw1
      go_wp2_with fail
      go_loopw [5] (fun s5 wr2 => ∃ n : Nat, s5 = .int .i64 n ∧ n ≤ ([] : List OpV).length ∧ Hid (Below w1.heap.size w1 wr2 ∧ ∀ (t : Nat) (x : OpV), t < n → ([] : List OpV)[t]? = some x → ltO cfInv o x = false)) (fun s5 _ => ([] : List OpV).length - (intOf s5).toNat)
      case atStart => exact ⟨0, rfl, Nat.zero_le _, HN0⟩
      case round =>
        clear HN0
        obtain ⟨n, rfl, hn, HN⟩ := hrel
        obtain ⟨bl, pl, cl, hvl, hltl, _, hcl⟩ := OpsOf.at (H.out.on (HB.out.on HN.out.1)) HO.out
        obtain rfl : ao = some ⟨bl, pl, none⟩ := by cases hvl; rfl
        have g1 : ∀ e os, (grow (redrawn wr e) os).cell? ⟨bl, pl + i * 11 + 9, none⟩ = some (.int .i64 o.inv) := fun e os => ((below_regrown wr e os).cell (p := ⟨bl, pl + i * 11 + 9, none⟩) hltl).trans (hcl 9 _ rfl)
        have g2 : ∀ e os, (grow (redrawn wr e) os).cell? ⟨bl, pl + i * 11, none⟩ = some (.int .i64 o.id) := fun e os => ((below_regrown wr e os).cell (p := ⟨bl, pl + i * 11 + 0, none⟩) hltl).trans (hcl 0 _ rfl)
        clear hvl hltl hcl
        obtain rfl : n = 0 := by simpa using hn
        have q3 : decide ((0 : Int) < 0) = false := rfl
        go_wp2_with fail
        refine wp_region_quiet_below (by kernel_rfl) (by kernel_rfl) ?_
        repeat (go_big_quiet_step (fail))
        refine wpQuiet_nil ?_
        intro _ hw'
        obtain ⟨⟨dq, osq⟩, hw''⟩ := hw'
        subst hw''
        have hb5 := HN.out.1.on (below_regrown wr dq osq)
        have HPUT := Lib.hid (sorted_put HSRT.out (n := 0) (by first | omega | (simp only [List.length_nil]; omega)) HN.out.2 (fun y hy => by simp at hy))
        obtain ⟨W5, hW5⟩ : ∃ W, grow (redrawn wr dq) osq = W := ⟨_, rfl⟩
        rw [hW5] at hb5 ⊢
        clear hW5 g1 g2
        have z5 : w.heap.size ≤ W5.heap.size := by have := HB.out.size; have := hb5.size; omega
        have hba : Below W5.heap.size W5 (W5.alloc (.cells #[] 35)) := by go_grown
        obtain ⟨v6, W6, hr6, ho6, hb6⟩ := ops_app (OpsOwn.made W5.heap.size W5 (Nat.le_refl _)) (ops_take ((HRD.out.on hb5).on hba) (n := 0) (by first | omega | (simp only [List.length_nil]; omega)) 0) hba.size (by rw [List.length_take]; first | omega | (simp only [List.length_nil]; omega))
        obtain ⟨a6, m6, c6, rfl⟩ := own_form ho6
        have hb56 := hba.trans (hb6.mono (Nat.le_refl _))
        obtain ⟨bl6, pl6, cl6, hvl6, _, _, hcl6⟩ := OpsOf.at (H.out.on (HB.out.on (hb5.on hb56))) HO.out
        obtain ⟨rfl, rfl⟩ : bl = bl6 ∧ pl = pl6 := by cases hvl6; exact ⟨rfl, rfl⟩
        have l6 := load_cellsO (p := pl + i * 11) hcl6
        have hb7 : Below W6.heap.size W6 (W6.alloc (.cells #[Value.int .i64 o.id, Value.int .i64 o.proc, Value.int .i64 o.obj, Value.int .i64 o.kind, Value.int .i64 o.meth, Value.int .i64 o.arg, Value.int .i64 o.sec, Value.bool o.done, Value.int .i64 o.res, Value.int .i64 o.inv, Value.int .i64 o.ret] 35)) := by go_grown
        obtain ⟨v8, W8, hr8, ho8, hb8⟩ := ops_push (n₀ := W5.heap.size) (ho6.on hb7) (OpAt.box W6 o) HWO.out (by have := hb56.size; have := hb7.size; omega) (by rw [List.nil_append, List.length_take]; first | omega | (simp only [List.length_nil]; omega))
        obtain ⟨a8, m8, c8, rfl⟩ := own_form ho8
        have hb58 := (hb56.trans (hb7.mono hb56.size)).trans hb8
        have ht8 : OpsOf W8 (.slice none 0 0) (([] : List OpV).drop 0) := ⟨.inl ⟨by simp, _, _, rfl⟩, by simp⟩
        obtain ⟨v9, W9, hr9, ho9, hb9⟩ := ops_app (n₀ := W5.heap.size) ho8 ht8 (Nat.le_trans hb56.size (by have := hb7.size; have := hb8.size; omega)) (by simp only [List.length_append, List.nil_append, List.length_take, List.length_drop, List.length_cons, List.length_nil]; omega)
        obtain ⟨a9, m9, c9, rfl⟩ := own_form ho9
        have hm9 := (own_cap ho9).1
        rw [List.nil_append] at ho9 hm9
        subst hm9
        have HE := Lib.hid (show RsI w W9 l (i + 1) (.slice a9 (([] : List OpV).take 0 ++ [o] ++ ([] : List OpV).drop 0).length c9) (([] : List OpV).take 0 ++ [o] ++ ([] : List OpV).drop 0) from ⟨ho9.base z5, by rw [take_snoc HO.out]; exact HPUT.out, HB.out.on (hb5.on (hb58.trans hb9))⟩)
        clear hb5 hba ho6 hb6 hb56 hvl6 hcl6 hb7 ho8 hb8 hb58 ht8 ho9 hb9
        go_wp2_with fail
        go_roundw
        case measure => simp [intOf] <;> omega
        case rel => exact ⟨i + 1, a9, c9, _, by simp, by first | rfl | (congr 1; simp only [List.length_append, List.length_take, List.length_drop, List.length_cons, List.length_nil]; omega), by omega, HE⟩
    · obtain ⟨rfl, _, rfl⟩ := Value.slice.inj e
      clear e hng hg hcm hsz hrow
      obtain ⟨w1, hw1⟩ : ∃ W, wr = W := ⟨_, rfl⟩
      have HW1 := Lib.hid hw1
      have HN0 := Lib.hid (show Below w1.heap.size w1 wr ∧ ∀ (t : Nat) (x : OpV), t < 0 → S[t]? = some x → ltO cfInv o x = false from ⟨by rw [hw1]; exact Below.refl _ _, fun t x ht => by omega⟩)
      rw [hw1] at HB HRD
      clear hw1
      go_wp2_with fail
      go_loopw [5] (fun s5 wr2 => ∃ n : Nat, s5 = .int .i64 n ∧ n ≤ S.length ∧ Hid (Below w1.heap.size w1 wr2 ∧ ∀ (t : Nat) (x : OpV), t < n → S[t]? = some x → ltO cfInv o x = false)) (fun s5 _ => S.length - (intOf s5).toNat)
      case atStart => exact ⟨0, rfl, Nat.zero_le _, HN0⟩
      case round =>
        clear HN0
        obtain ⟨n, rfl, hn, HN⟩ := hrel
        obtain ⟨bl, pl, cl, hvl, hltl, _, hcl⟩ := OpsOf.at (H.out.on (HB.out.on HN.out.1)) HO.out
        obtain rfl : ao = some ⟨bl, pl, none⟩ := by cases hvl; rfl
        have g1 : ∀ e os, (grow (redrawn wr e) os).cell? ⟨bl, pl + i * 11 + 9, none⟩ = some (.int .i64 o.inv) := fun e os => ((below_regrown wr e os).cell (p := ⟨bl, pl + i * 11 + 9, none⟩) hltl).trans (hcl 9 _ rfl)
        have g2 : ∀ e os, (grow (redrawn wr e) os).cell? ⟨bl, pl + i * 11, none⟩ = some (.int .i64 o.id) := fun e os => ((below_regrown wr e os).cell (p := ⟨bl, pl + i * 11 + 0, none⟩) hltl).trans (hcl 0 _ rfl)
        clear hvl hltl hcl
        by_cases hnl : n < S.length
        case pos =>
          obtain ⟨x, hx⟩ : ∃ x, S[n]? = some x := ⟨_, List.getElem?_eq_getElem hnl⟩
          obtain ⟨bs, ps, cs, hvs, hlts, _, hcs⟩ := OpsOf.at (HRD.out.on HN.out.1) hx
          obtain ⟨rfl, rfl⟩ : g = bs ∧ 0 = ps := by cases hvs; exact ⟨rfl, rfl⟩
          have g3 : ∀ e os, (grow (redrawn wr e) os).cell? ⟨g, n * 11 + 9, none⟩ = some (.int .i64 x.inv) := fun e os => ((below_regrown wr e os).cell (p := ⟨g, n * 11 + 9, none⟩) hlts).trans (by have := hcs 9 _ rfl; rwa [Nat.zero_add] at this)
          have g4 : ∀ e os, (grow (redrawn wr e) os).cell? ⟨g, n * 11, none⟩ = some (.int .i64 x.id) := fun e os => ((below_regrown wr e os).cell (p := ⟨g, n * 11, none⟩) hlts).trans (by have := hcs 0 _ rfl; rwa [Nat.zero_add] at this)
          have q3 : decide ((n : Int) < (S.length : Int)) = true := decide_eq_true (by omega)
          have q3b : (n : Int) < (S.length : Int) := by omega
          have q4 : IntKind.i64.wrap ((n : Int) + 1) = (n : Int) + 1 := IntWalk.i64_in _ (by omega)
          have q5 : ¬ cA = n := by omega
          have HX := Lib.hid hx
          clear hvs hlts hcs hx
          by_cases c1 : x.inv < o.inv
          · have q6 : decide (x.inv < o.inv) = true := decide_eq_true c1
            have HC := Lib.hid c1
            clear c1
            go_wp2_with fail
            refine wp_region_quiet_below (by kernel_rfl) (by kernel_rfl) ?_
            repeat (go_big_quiet_step (fail))
            refine wpQuiet_nil ?_
            intro _ hw'
            obtain ⟨⟨dq, osq⟩, hw''⟩ := hw'
            subst hw''
            clear g1 g2 g3 g4
            go_wp2_with fail
            go_roundw
            case measure => simp [intOf] <;> omega
            case rel => exact ⟨n + 1, by simp, by omega, Lib.hid ⟨HN.out.1.on (below_regrown wr dq osq), fun t y ht hy => by
              by_cases e : t = n
              · subst e
                rw [HX.out] at hy
                cases hy
                rw [lt_no, inv_lt]
                have := HC.out
                omega
              · exact HN.out.2 t y (by omega) hy⟩⟩
          · have q6 : decide (x.inv < o.inv) = false := decide_eq_false c1
            by_cases c2 : x.inv = o.inv
            · have q7 : (x.inv == o.inv) = true := beq_iff_eq.2 c2
              by_cases c3 : x.id ≤ o.id
              · have q8 : decide (x.id ≤ o.id) = true := decide_eq_true c3
                have HC := Lib.hid (show ¬ (o.inv < x.inv ∨ (o.inv = x.inv ∧ o.id < x.id)) by omega)
                clear c1 c2 c3
                go_wp2_with fail
                refine wp_region_quiet_below (by kernel_rfl) (by kernel_rfl) ?_
                repeat (go_big_quiet_step (fail))
                refine wpQuiet_nil ?_
                intro _ hw'
                obtain ⟨⟨dq, osq⟩, hw''⟩ := hw'
                subst hw''
                clear g1 g2 g3 g4
                go_wp2_with fail
                go_roundw
                case measure => simp [intOf] <;> omega
                case rel => exact ⟨n + 1, by simp, by omega, Lib.hid ⟨HN.out.1.on (below_regrown wr dq osq), fun t y ht hy => by
                  by_cases e : t = n
                  · subst e
                    rw [HX.out] at hy
                    cases hy
                    rw [lt_no, inv_lt]
                    have := HC.out
                    omega
                  · exact HN.out.2 t y (by omega) hy⟩⟩
              · have q8 : decide (x.id ≤ o.id) = false := decide_eq_false c3
                have HC := Lib.hid (show o.inv < x.inv ∨ (o.inv = x.inv ∧ o.id < x.id) by omega)
                clear c1 c2 c3
                go_wp2_with fail
                refine wp_region_quiet_below (by kernel_rfl) (by kernel_rfl) ?_
                repeat (go_big_quiet_step (fail))
                refine wpQuiet_nil ?_
                intro _ hw'
                obtain ⟨⟨dq, osq⟩, hw''⟩ := hw'
                subst hw''
                have hb5 := HN.out.1.on (below_regrown wr dq osq)
                have HPUT := Lib.hid (sorted_put HSRT.out (n := n) (by first | omega | (simp only [List.length_nil]; omega)) HN.out.2 (fun y hy => by rw [HX.out] at hy; cases hy; rw [lt_yes, inv_lt]; have := HC.out; omega))
                obtain ⟨W5, hW5⟩ : ∃ W, grow (redrawn wr dq) osq = W := ⟨_, rfl⟩
                rw [hW5] at hb5 ⊢
                clear hW5 g1 g2 g3 g4
                have z5 : w.heap.size ≤ W5.heap.size := by have := HB.out.size; have := hb5.size; omega
                have hba : Below W5.heap.size W5 (W5.alloc (.cells #[] 35)) := by go_grown
                obtain ⟨v6, W6, hr6, ho6, hb6⟩ := ops_app (OpsOwn.made W5.heap.size W5 (Nat.le_refl _)) (ops_take ((HRD.out.on hb5).on hba) (n := n) (by first | omega | (simp only [List.length_nil]; omega)) cA) hba.size (by rw [List.length_take]; first | omega | (simp only [List.length_nil]; omega))
                obtain ⟨a6, m6, c6, rfl⟩ := own_form ho6
                have hb56 := hba.trans (hb6.mono (Nat.le_refl _))
                obtain ⟨bl6, pl6, cl6, hvl6, _, _, hcl6⟩ := OpsOf.at (H.out.on (HB.out.on (hb5.on hb56))) HO.out
                obtain ⟨rfl, rfl⟩ : bl = bl6 ∧ pl = pl6 := by cases hvl6; exact ⟨rfl, rfl⟩
                have l6 := load_cellsO (p := pl + i * 11) hcl6
                have hb7 : Below W6.heap.size W6 (W6.alloc (.cells #[Value.int .i64 o.id, Value.int .i64 o.proc, Value.int .i64 o.obj, Value.int .i64 o.kind, Value.int .i64 o.meth, Value.int .i64 o.arg, Value.int .i64 o.sec, Value.bool o.done, Value.int .i64 o.res, Value.int .i64 o.inv, Value.int .i64 o.ret] 35)) := by go_grown
                obtain ⟨v8, W8, hr8, ho8, hb8⟩ := ops_push (n₀ := W5.heap.size) (ho6.on hb7) (OpAt.box W6 o) HWO.out (by have := hb56.size; have := hb7.size; omega) (by rw [List.nil_append, List.length_take]; first | omega | (simp only [List.length_nil]; omega))
                obtain ⟨a8, m8, c8, rfl⟩ := own_form ho8
                have hb58 := (hb56.trans (hb7.mono hb56.size)).trans hb8
                have ht8 : OpsOf W8 (.slice (some ⟨g, n * 11, none⟩) (S.length - n) (cA - n)) (S.drop n) := by have := ops_drop (n := n) ((HRD.out.on hb5).on hb58) (by omega) (cA - n); rwa [Nat.zero_add] at this
                obtain ⟨v9, W9, hr9, ho9, hb9⟩ := ops_app (n₀ := W5.heap.size) ho8 ht8 (Nat.le_trans hb56.size (by have := hb7.size; have := hb8.size; omega)) (by simp only [List.length_append, List.nil_append, List.length_take, List.length_drop, List.length_cons, List.length_nil]; omega)
                obtain ⟨a9, m9, c9, rfl⟩ := own_form ho9
                have hm9 := (own_cap ho9).1
                rw [List.nil_append] at ho9 hm9
                subst hm9
                have HE := Lib.hid (show RsI w W9 l (i + 1) (.slice a9 (S.take n ++ [o] ++ S.drop n).length c9) (S.take n ++ [o] ++ S.drop n) from ⟨ho9.base z5, by rw [take_snoc HO.out]; exact HPUT.out, HB.out.on (hb5.on (hb58.trans hb9))⟩)
                clear hb5 hba ho6 hb6 hb56 hvl6 hcl6 hb7 ho8 hb8 hb58 ht8 ho9 hb9
                go_wp2_with fail
                go_roundw
                case measure => simp [intOf] <;> omega
                case rel => exact ⟨i + 1, a9, c9, _, by simp, by first | rfl | (congr 1; simp only [List.length_append, List.length_take, List.length_drop, List.length_cons, List.length_nil]; omega), by omega, HE⟩
            · have q7 : (x.inv == o.inv) = false := beq_eq_false_iff_ne.2 c2
              have HC := Lib.hid (show o.inv < x.inv ∨ (o.inv = x.inv ∧ o.id < x.id) by omega)
              clear c1 c2
              go_wp2_with fail
              refine wp_region_quiet_below (by kernel_rfl) (by kernel_rfl) ?_
              repeat (go_big_quiet_step (fail))
              refine wpQuiet_nil ?_
              intro _ hw'
              obtain ⟨⟨dq, osq⟩, hw''⟩ := hw'
              subst hw''
              have hb5 := HN.out.1.on (below_regrown wr dq osq)
              have HPUT := Lib.hid (sorted_put HSRT.out (n := n) (by first | omega | (simp only [List.length_nil]; omega)) HN.out.2 (fun y hy => by rw [HX.out] at hy; cases hy; rw [lt_yes, inv_lt]; have := HC.out; omega))
              obtain ⟨W5, hW5⟩ : ∃ W, grow (redrawn wr dq) osq = W := ⟨_, rfl⟩
              rw [hW5] at hb5 ⊢
              clear hW5 g1 g2 g3 g4
              have z5 : w.heap.size ≤ W5.heap.size := by have := HB.out.size; have := hb5.size; omega
              have hba : Below W5.heap.size W5 (W5.alloc (.cells #[] 35)) := by go_grown
              obtain ⟨v6, W6, hr6, ho6, hb6⟩ := ops_app (OpsOwn.made W5.heap.size W5 (Nat.le_refl _)) (ops_take ((HRD.out.on hb5).on hba) (n := n) (by first | omega | (simp only [List.length_nil]; omega)) cA) hba.size (by rw [List.length_take]; first | omega | (simp only [List.length_nil]; omega))
              obtain ⟨a6, m6, c6, rfl⟩ := own_form ho6
              have hb56 := hba.trans (hb6.mono (Nat.le_refl _))
              obtain ⟨bl6, pl6, cl6, hvl6, _, _, hcl6⟩ := OpsOf.at (H.out.on (HB.out.on (hb5.on hb56))) HO.out
              obtain ⟨rfl, rfl⟩ : bl = bl6 ∧ pl = pl6 := by cases hvl6; exact ⟨rfl, rfl⟩
              have l6 := load_cellsO (p := pl + i * 11) hcl6
              have hb7 : Below W6.heap.size W6 (W6.alloc (.cells #[Value.int .i64 o.id, Value.int .i64 o.proc, Value.int .i64 o.obj, Value.int .i64 o.kind, Value.int .i64 o.meth, Value.int .i64 o.arg, Value.int .i64 o.sec, Value.bool o.done, Value.int .i64 o.res, Value.int .i64 o.inv, Value.int .i64 o.ret] 35)) := by go_grown
              obtain ⟨v8, W8, hr8, ho8, hb8⟩ := ops_push (n₀ := W5.heap.size) (ho6.on hb7) (OpAt.box W6 o) HWO.out (by have := hb56.size; have := hb7.size; omega) (by rw [List.nil_append, List.length_take]; first | omega | (simp only [List.length_nil]; omega))
              obtain ⟨a8, m8, c8, rfl⟩ := own_form ho8
              have hb58 := (hb56.trans (hb7.mono hb56.size)).trans hb8
              have ht8 : OpsOf W8 (.slice (some ⟨g, n * 11, none⟩) (S.length - n) (cA - n)) (S.drop n) := by have := ops_drop (n := n) ((HRD.out.on hb5).on hb58) (by omega) (cA - n); rwa [Nat.zero_add] at this
              obtain ⟨v9, W9, hr9, ho9, hb9⟩ := ops_app (n₀ := W5.heap.size) ho8 ht8 (Nat.le_trans hb56.size (by have := hb7.size; have := hb8.size; omega)) (by simp only [List.length_append, List.nil_append, List.length_take, List.length_drop, List.length_cons, List.length_nil]; omega)
              obtain ⟨a9, m9, c9, rfl⟩ := own_form ho9
              have hm9 := (own_cap ho9).1
              rw [List.nil_append] at ho9 hm9
              subst hm9
              have HE := Lib.hid (show RsI w W9 l (i + 1) (.slice a9 (S.take n ++ [o] ++ S.drop n).length c9) (S.take n ++ [o] ++ S.drop n) from ⟨ho9.base z5, by rw [take_snoc HO.out]; exact HPUT.out, HB.out.on (hb5.on (hb58.trans hb9))⟩)
              clear hb5 hba ho6 hb6 hb56 hvl6 hcl6 hb7 ho8 hb8 hb58 ht8 ho9 hb9
              go_wp2_with fail
              go_roundw
              case measure => simp [intOf] <;> omega
              case rel => exact ⟨i + 1, a9, c9, _, by simp, by first | rfl | (congr 1; simp only [List.length_append, List.length_take, List.length_drop, List.length_cons, List.length_nil]; omega), by omega, HE⟩
        case neg =>
          obtain rfl : n = S.length := by omega
          have q3 : decide ((S.length : Int) < (S.length : Int)) = false := decide_eq_false (by omega)
          by_cases q5 : cA = S.length
          · subst q5
            go_wp2_with fail
            refine wp_region_quiet_below (by kernel_rfl) (by kernel_rfl) ?_
            repeat (go_big_quiet_step (fail))
            refine wpQuiet_nil ?_
            intro _ hw'
            obtain ⟨⟨dq, osq⟩, hw''⟩ := hw'
            subst hw''
            have hb5 := HN.out.1.on (below_regrown wr dq osq)
            have HPUT := Lib.hid (sorted_put HSRT.out (n := S.length) (by first | omega | (simp only [List.length_nil]; omega)) HN.out.2 (fun y hy => by simp at hy))
            obtain ⟨W5, hW5⟩ : ∃ W, grow (redrawn wr dq) osq = W := ⟨_, rfl⟩
            rw [hW5] at hb5 ⊢
            clear hW5 g1 g2
            have z5 : w.heap.size ≤ W5.heap.size := by have := HB.out.size; have := hb5.size; omega
            have hba : Below W5.heap.size W5 (W5.alloc (.cells #[] 35)) := by go_grown
            obtain ⟨v6, W6, hr6, ho6, hb6⟩ := ops_app (OpsOwn.made W5.heap.size W5 (Nat.le_refl _)) (ops_take ((HRD.out.on hb5).on hba) (n := S.length) (by first | omega | (simp only [List.length_nil]; omega)) S.length) hba.size (by rw [List.length_take]; first | omega | (simp only [List.length_nil]; omega))
            obtain ⟨a6, m6, c6, rfl⟩ := own_form ho6
            have hb56 := hba.trans (hb6.mono (Nat.le_refl _))
            obtain ⟨bl6, pl6, cl6, hvl6, _, _, hcl6⟩ := OpsOf.at (H.out.on (HB.out.on (hb5.on hb56))) HO.out
            obtain ⟨rfl, rfl⟩ : bl = bl6 ∧ pl = pl6 := by cases hvl6; exact ⟨rfl, rfl⟩
            have l6 := load_cellsO (p := pl + i * 11) hcl6
            have hb7 : Below W6.heap.size W6 (W6.alloc (.cells #[Value.int .i64 o.id, Value.int .i64 o.proc, Value.int .i64 o.obj, Value.int .i64 o.kind, Value.int .i64 o.meth, Value.int .i64 o.arg, Value.int .i64 o.sec, Value.bool o.done, Value.int .i64 o.res, Value.int .i64 o.inv, Value.int .i64 o.ret] 35)) := by go_grown
            obtain ⟨v8, W8, hr8, ho8, hb8⟩ := ops_push (n₀ := W5.heap.size) (ho6.on hb7) (OpAt.box W6 o) HWO.out (by have := hb56.size; have := hb7.size; omega) (by rw [List.nil_append, List.length_take]; first | omega | (simp only [List.length_nil]; omega))
            obtain ⟨a8, m8, c8, rfl⟩ := own_form ho8
            have hb58 := (hb56.trans (hb7.mono hb56.size)).trans hb8
            have ht8 : OpsOf W8 (.slice (some ⟨g, 0, none⟩) 0 0) (S.drop S.length) := ⟨.inl ⟨by simp, _, _, rfl⟩, by simp⟩
            obtain ⟨v9, W9, hr9, ho9, hb9⟩ := ops_app (n₀ := W5.heap.size) ho8 ht8 (Nat.le_trans hb56.size (by have := hb7.size; have := hb8.size; omega)) (by simp only [List.length_append, List.nil_append, List.length_take, List.length_drop, List.length_cons, List.length_nil]; omega)
            obtain ⟨a9, m9, c9, rfl⟩ := own_form ho9
            have hm9 := (own_cap ho9).1
            rw [List.nil_append] at ho9 hm9
            subst hm9
            have HE := Lib.hid (show RsI w W9 l (i + 1) (.slice a9 (S.take S.length ++ [o] ++ S.drop S.length).length c9) (S.take S.length ++ [o] ++ S.drop S.length) from ⟨ho9.base z5, by rw [take_snoc HO.out]; exact HPUT.out, HB.out.on (hb5.on (hb58.trans hb9))⟩)
            clear hb5 hba ho6 hb6 hb56 hvl6 hcl6 hb7 ho8 hb8 hb58 ht8 ho9 hb9
            go_wp2_with fail
            go_roundw
            case measure => simp [intOf] <;> omega
            case rel => exact ⟨i + 1, a9, c9, _, by simp, by first | rfl | (congr 1; simp only [List.length_append, List.length_take, List.length_drop, List.length_cons, List.length_nil]; omega), by omega, HE⟩
          · skip
            go_wp2_with fail
            refine wp_region_quiet_below (by kernel_rfl) (by kernel_rfl) ?_
            repeat (go_big_quiet_step (fail))
            refine wpQuiet_nil ?_
            intro _ hw'
            obtain ⟨⟨dq, osq⟩, hw''⟩ := hw'
            subst hw''
            have hb5 := HN.out.1.on (below_regrown wr dq osq)
            have HPUT := Lib.hid (sorted_put HSRT.out (n := S.length) (by first | omega | (simp only [List.length_nil]; omega)) HN.out.2 (fun y hy => by simp at hy))
            obtain ⟨W5, hW5⟩ : ∃ W, grow (redrawn wr dq) osq = W := ⟨_, rfl⟩
            rw [hW5] at hb5 ⊢
            clear hW5 g1 g2
            have z5 : w.heap.size ≤ W5.heap.size := by have := HB.out.size; have := hb5.size; omega
            have hba : Below W5.heap.size W5 (W5.alloc (.cells #[] 35)) := by go_grown
            obtain ⟨v6, W6, hr6, ho6, hb6⟩ := ops_app (OpsOwn.made W5.heap.size W5 (Nat.le_refl _)) (ops_take ((HRD.out.on hb5).on hba) (n := S.length) (by first | omega | (simp only [List.length_nil]; omega)) cA) hba.size (by rw [List.length_take]; first | omega | (simp only [List.length_nil]; omega))
            obtain ⟨a6, m6, c6, rfl⟩ := own_form ho6
            have hb56 := hba.trans (hb6.mono (Nat.le_refl _))
            obtain ⟨bl6, pl6, cl6, hvl6, _, _, hcl6⟩ := OpsOf.at (H.out.on (HB.out.on (hb5.on hb56))) HO.out
            obtain ⟨rfl, rfl⟩ : bl = bl6 ∧ pl = pl6 := by cases hvl6; exact ⟨rfl, rfl⟩
            have l6 := load_cellsO (p := pl + i * 11) hcl6
            have hb7 : Below W6.heap.size W6 (W6.alloc (.cells #[Value.int .i64 o.id, Value.int .i64 o.proc, Value.int .i64 o.obj, Value.int .i64 o.kind, Value.int .i64 o.meth, Value.int .i64 o.arg, Value.int .i64 o.sec, Value.bool o.done, Value.int .i64 o.res, Value.int .i64 o.inv, Value.int .i64 o.ret] 35)) := by go_grown
            obtain ⟨v8, W8, hr8, ho8, hb8⟩ := ops_push (n₀ := W5.heap.size) (ho6.on hb7) (OpAt.box W6 o) HWO.out (by have := hb56.size; have := hb7.size; omega) (by rw [List.nil_append, List.length_take]; first | omega | (simp only [List.length_nil]; omega))
            obtain ⟨a8, m8, c8, rfl⟩ := own_form ho8
            have hb58 := (hb56.trans (hb7.mono hb56.size)).trans hb8
            have ht8 : OpsOf W8 (.slice (some ⟨g, S.length * 11, none⟩) 0 (cA - S.length)) (S.drop S.length) := ⟨.inl ⟨by simp, _, _, rfl⟩, by simp⟩
            obtain ⟨v9, W9, hr9, ho9, hb9⟩ := ops_app (n₀ := W5.heap.size) ho8 ht8 (Nat.le_trans hb56.size (by have := hb7.size; have := hb8.size; omega)) (by simp only [List.length_append, List.nil_append, List.length_take, List.length_drop, List.length_cons, List.length_nil]; omega)
            obtain ⟨a9, m9, c9, rfl⟩ := own_form ho9
            have hm9 := (own_cap ho9).1
            rw [List.nil_append] at ho9 hm9
            subst hm9
            have HE := Lib.hid (show RsI w W9 l (i + 1) (.slice a9 (S.take S.length ++ [o] ++ S.drop S.length).length c9) (S.take S.length ++ [o] ++ S.drop S.length) from ⟨ho9.base z5, by rw [take_snoc HO.out]; exact HPUT.out, HB.out.on (hb5.on (hb58.trans hb9))⟩)
            clear hb5 hba ho6 hb6 hb56 hvl6 hcl6 hb7 ho8 hb8 hb58 ht8 ho9 hb9
            go_wp2_with fail
            go_roundw
            case measure => simp [intOf] <;> omega
            case rel => exact ⟨i + 1, a9, c9, _, by simp, by first | rfl | (congr 1; simp only [List.length_append, List.length_take, List.length_drop, List.length_cons, List.length_nil]; omega), by omega, HE⟩
end Cu
end Go.Proofs.Ytgedlfilhpbfaaa
