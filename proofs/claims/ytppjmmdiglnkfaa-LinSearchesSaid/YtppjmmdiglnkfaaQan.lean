/- States as texts: contracts of both States; a state that is written is read. Plain: texts in order; lists of states, each once, in the order of their texts. -/
import Derived.Test.YtppjmmdiglnkfaaQam
import Derived.Sort.Walk0
import Derived.Lib.Bytealg
import Derived.Lib.SlicesCompact
namespace Go.Proofs.Ytppjmmdiglnkfaa
set_option maxRecDepth 100000
open Go.ChangeShapes Go.WideShapes Go.ChangeAt Go.RowKit Go.PlainAid Go.Deep

attribute [local go_sem ↓ high] app_intI
/-- The numbers that a text has from a place on, so many. -/
def stL (s : ByteArray) : Nat → Nat → List Int → List Int × Int
  | 0, p, L => (L, (p : Int))
  | c + 1, p, L => if (unvarP (s.extract p s.size)).2 = 0 then ([], 0) else stL s c (p + (unvarP (s.extract p s.size)).2.toNat) (L ++ [unfoldZ (unvarP (s.extract p s.size)).1])
def stateP (s : ByteArray) : List Int × Int := if (unvarP s).2 = 0 then ([], 0) else stL s (unvarP s).1.toNat (unvarP s).2.toNat []
theorem stL_bad {s : ByteArray} {c p : Nat} {L : List Int} (h : (unvarP (s.extract p s.size)).2 = 0) : stL s (c + 1) p L = ([], 0) := by rw [stL, if_pos h]
theorem stL_go {s : ByteArray} {c p : Nat} {L : List Int} {u k : Int} (h : unvarP (s.extract p s.size) = (u, k)) (hk : k ≠ 0) : stL s (c + 1) p L = stL s c (p + k.toNat) (L ++ [unfoldZ u]) := by
  rw [stL, h, if_neg hk]
theorem state_end {L : List Int} {p : Int} {A : List Int × Int} (h : A = (L, p)) : A.1 = L ∧ A.2 = p := by rw [h]; exact ⟨rfl, rfl⟩
set_option maxHeartbeats 4000000 in
theorem state_any (s : ByteArray) (w : World) (hs : s.size ≤ 1000000000000000000) (hb : s.size ≤ 17592186044414 ∨ (unvarP s).1 ≤ 17592186044414) : Calls Try.prog 70 #[.string s] w fun e w' => ∃ v', e = .returned (.tuple #[v', .int .i64 (stateP s).2]) ∧ OwnI w.heap.size w' v' (stateP s).1 ∧ Below w.heap.size w w' := by
  rcases hu : unvarP s with ⟨n, k⟩
  have HU := Lib.hid hu
  have HSZ := Lib.hid hs
  by_cases hk : k = 0
  · subst hk
    have HA := Lib.hid (show stateP s = ([], 0) by unfold stateP; rw [hu, if_pos rfl])
    clear hu hb hs
    go_enter Try.func70, Try.ntmps70
    go_wp2_with fail
    refine (unvar_any s (by have := HSZ.out; unfold maxLen; omega) _).mono ?_
    rintro _ _ ⟨rfl, rfl⟩
    rw [HU.out]
    go_wp2_with fail
    go_returns
    exact ⟨_, by rw [HA.out]; rfl, by rw [HA.out]; exact OwnI.nil _ _ none, Below.refl _ _⟩
  · obtain ⟨⟨n0, n1⟩, ⟨k0, k1, k2⟩, _, _⟩ := unvar_forth hu hk
    have hkq : (k == 0) = false := beq_eq_false_iff_ne.2 hk
    have HA := Lib.hid (show stateP s = stL s n.toNat k.toNat [] by unfold stateP; rw [hu, if_neg hk])
    have HN := Lib.hid (And.intro n0 n1)
    have HK := Lib.hid (And.intro k0 k2)
    have HBD : Hid (s.size ≤ 17592186044414 ∨ n ≤ 17592186044414) := by rw [hu] at hb; exact hb
    clear hu hb hs hk k0 k1 k2
    go_enter Try.func70, Try.ntmps70
    go_wp2_with fail
    refine (unvar_any s (by have := HSZ.out; unfold maxLen; omega) _).mono ?_
    rintro _ _ ⟨rfl, rfl⟩
    rw [HU.out]
    have HB1 := Lib.hid (Below.refl w.heap.size w)
    go_wp2_with fail
    go_loopw [5, 6, 17] (fun s5 s6 s17 wr => ∃ (p j : Nat) (L : List Int), s5 = .int .i64 p ∧ s17 = .int .u64 j ∧ L.length = j ∧ Hid (OwnI w.heap.size wr s6 L ∧ stL s (n.toNat - L.length) p L = stL s n.toNat k.toNat [] ∧ Below w.heap.size w wr ∧ L.length ≤ p ∧ p ≤ s.size ∧ L.length ≤ n.toNat)) (fun _ _ s17 _ => n.toNat - (intOf s17).toNat)
    case atStart => exact ⟨k.toNat, 0, [], by rw [show ((k.toNat : Nat) : Int) = k by have := HK.out; omega], rfl, rfl, OwnI.nil _ _ none, rfl, HB1.out, Nat.zero_le _, by have := HK.out; omega, Nat.zero_le _⟩
    case round =>
      obtain ⟨p, j, L, rfl, rfl, rfl, HR⟩ := hrel
      by_cases hc : (L.length : Int) < n
      · have q1 : decide ((L.length : Int) < n) = true := decide_eq_true hc
        have hps := HR.out.2.2.2.2.1
        have p0 : (p : Int) ≤ (s.size : Int) := by omega
        have hj1 : IntKind.u64.wrap ((L.length : Int) + 1) = (L.length : Int) + 1 := by rw [IntKind.wrap_u64]; have := HN.out; omega
        obtain ⟨t, ht⟩ : ∃ t, s.extract p s.size = t := ⟨_, rfl⟩
        have hts : t.size = s.size - p := by rw [← ht, ByteArray.size_extract]; omega
        have HTS := Lib.hid hts
        rcases hv : unvarP t with ⟨u, k'⟩
        have HV := Lib.hid hv
        have HT := Lib.hid ht
        have HC := Lib.hid hc
        have HL : Hid (L.length ≤ 17592186044414) := by
          show L.length ≤ 17592186044414
          have h1 := HR.out.2.2.2.1
          rcases HBD.out with c | c <;> omega
        obtain ⟨f, hf⟩ : ∃ f, n.toNat - L.length = f + 1 := ⟨n.toNat - L.length - 1, by omega⟩
        have HF := Lib.hid hf
        by_cases hk' : k' = 0
        · have HX := Lib.hid (show stateP s = ([], 0) by rw [HA.out, ← HR.out.2.1, hf]; exact stL_bad (by rw [ht, hv]; exact hk'))
          subst hk'
          clear hc hf hts hv hps
          go_wp2_with fail
          refine (unvar_any t (by have := HTS.out; have := HSZ.out; unfold maxLen; omega) _).mono ?_
          rintro _ _ ⟨rfl, rfl⟩
          rw [HV.out]
          go_wp2_with fail
          go_returns
          exact ⟨_, by rw [HX.out]; rfl, by rw [HX.out]; exact OwnI.nil _ _ none, HR.out.2.2.1⟩
        · obtain ⟨⟨u0, u1⟩, ⟨c0, c1, c2⟩, _, _⟩ := unvar_forth hv hk'
          have hkq' : (k' == 0) = false := beq_eq_false_iff_ne.2 hk'
          have HX := Lib.hid (show stL s f (p + k'.toNat) (L ++ [unfoldZ u]) = stL s n.toNat k.toNat [] by rw [← HR.out.2.1, hf]; exact (stL_go (by rw [ht, hv]) hk').symm)
          have hw1 : IntKind.i64.wrap ((p : Int) + k') = (p : Int) + k' := IntWalk.i64_in _ (by have := HSZ.out; omega)
          have HKK := Lib.hid (And.intro c0 (show k' ≤ (s.size : Int) - p by omega))
          have hz := unfoldZ_b u u0 u1
          have HZ := Lib.hid hz
          have HU1 := Lib.hid (And.intro u0 u1)
          clear hc hf hts hv hps hk' c0 c1 c2 u0 u1 hz
          go_wp2_with fail
          refine (unvar_any t (by have := HTS.out; have := HSZ.out; unfold maxLen; omega) _).mono ?_
          rintro _ _ ⟨rfl, rfl⟩
          rw [HV.out]
          have HRo := Lib.hid HR.out.1
          have HBr := Lib.hid HR.out.2.2.1
          go_wp2_with fail
          refine (unfold_any u _ HU1.out.1 HU1.out.2).mono ?_
          rintro _ _ ⟨rfl, rfl⟩
          obtain ⟨v2, W2, hr2, ho2, hm2⟩ := own_push HRo.out HBr.out.size HL.out (unfoldZ u) HZ.out
          have HO2 := Lib.hid ho2
          have HB2 := Lib.hid (HBr.out.trans (hm2.below HRo.out HBr.out.size))
          clear ho2 hm2
          go_wp2_with fail
          go_roundw
          case measure => have := HC.out; simp [intOf]; omega
          case rel => exact ⟨p + k'.toNat, L.length + 1, L ++ [unfoldZ u], by rw [show ((p + k'.toNat : Nat) : Int) = (p : Int) + k' by have := HKK.out; omega], by simp, by simp, Lib.hid ⟨HO2.out, by rw [List.length_append, List.length_singleton, show n.toNat - (L.length + 1) = f by have := HF.out; omega]; exact HX.out, HB2.out, by rw [List.length_append, List.length_singleton]; have := HR.out.2.2.2.1; have := HKK.out; omega, by have := HKK.out; omega, by rw [List.length_append, List.length_singleton]; have := HC.out; omega⟩⟩
      · have q1 : decide ((L.length : Int) < n) = false := decide_eq_false hc
        have q2 : ((L.length : Int) < n) = False := eq_false hc
        have HX := Lib.hid (show stateP s = (L, (p : Int)) by
          rw [HA.out, ← HR.out.2.1, show n.toNat - L.length = 0 by have := HN.out; omega]
          rfl)
        clear hc
        go_wp2_with fail
        go_returns
        exact ⟨_, by rw [HX.out]; rfl, by rw [HX.out]; exact HR.out.1, HR.out.2.2.1⟩
/-- What is written behind so many bytes is read from there. -/
theorem stL_body : ∀ (L : List Int) (s pre rest : ByteArray) (M : List Int), (∀ x ∈ L, -9223372036854775808 ≤ x ∧ x ≤ 9223372036854775807) → s = pre ++ bodyS L ++ rest →
    stL s L.length pre.size M = (M ++ L, ((pre.size + (bodyS L).size : Nat) : Int))
  | [], s, pre, rest, M, _, _ => by
    rw [List.append_nil]
    rfl
  | x :: r, s, pre, rest, M, h, hs => by
    have hx := h x (by simp)
    have hz := foldZ_b x hx.1 hx.2
    have e : s.extract pre.size s.size = varS (foldZ x) ++ (bodyS r ++ rest) := by
      have e1 : s = pre ++ (varS (foldZ x) ++ (bodyS r ++ rest)) := by rw [hs, bodyS]; simp only [ByteArray.append_assoc]
      rw [e1]
      exact ByteArray.extract_append_eq_right rfl (by rw [ByteArray.size_append])
    have hb := back_var (foldZ x) (bodyS r ++ rest) hz.1 hz.2
    rw [← e] at hb
    have hpos : ((varS (foldZ x)).size : Int) ≠ 0 := by
      have : 1 ≤ (varS (foldZ x)).size := by unfold varS; rw [strOfNums_size]; exact varL_pos _
      omega
    rw [List.length_cons, stL_go hb hpos, unfold_fold, show pre.size + ((varS (foldZ x)).size : Int).toNat = (pre ++ varS (foldZ x)).size by rw [ByteArray.size_append]; omega,
      stL_body r s (pre ++ varS (foldZ x)) rest (M ++ [x]) (fun y hy => h y (by simp [hy])) (by rw [hs, bodyS]; simp only [ByteArray.append_assoc])]
    rw [ByteArray.size_append, bodyS, ByteArray.size_append, List.append_assoc, Nat.add_assoc]
    rfl
theorem state_back (L : List Int) (rest : ByteArray) (h : ∀ x ∈ L, -9223372036854775808 ≤ x ∧ x ≤ 9223372036854775807) (hl : L.length ≤ 9223372036854775807) : stateP (textS L ++ rest) = (L, ((textS L).size : Int)) := by
  have hb := back_var (L.length : Int) (bodyS L ++ rest) (by omega) (by omega)
  have e : varS (L.length : Int) ++ (bodyS L ++ rest) = textS L ++ rest := by unfold textS; rw [ByteArray.append_assoc]
  rw [e] at hb
  have hpos : ((varS (L.length : Int)).size : Int) ≠ 0 := by
    have : 1 ≤ (varS (L.length : Int)).size := by unfold varS; rw [strOfNums_size]; exact varL_pos _
    omega
  unfold stateP
  rw [hb, if_neg hpos]
  show stL _ (L.length : Int).toNat ((varS (L.length : Int)).size : Int).toNat [] = _
  rw [show (L.length : Int).toNat = L.length by omega, show ((varS (L.length : Int)).size : Int).toNat = (varS (L.length : Int)).size by omega, stL_body L (textS L ++ rest) (varS (L.length : Int)) rest [] h rfl, List.nil_append]
  unfold textS
  rw [ByteArray.size_append]
end Go.Proofs.Ytppjmmdiglnkfaa
namespace Go.Proofs.Ytppjmmdiglnkfaa
set_option maxRecDepth 100000
open Go.ChangeShapes Go.WideShapes Go.ChangeAt Go.RowKit Go.PlainAid
namespace Ln
/-- A text below another. -/
def lessB (a b : ByteArray) : Bool := Op.bytesLess a.toList b.toList
theorem text_eq {a b : ByteArray} (h : a.toList = b.toList) : a = b := by
  rw [ByteArray.toList_eq, ByteArray.toList_eq] at h
  exact ByteArray.ext (Array.ext' h)
theorem lessB_iff {a b : ByteArray} : lessB a b = true ↔ a.toList < b.toList := by
  unfold lessB
  rw [bytesLess_eq]
  exact decide_eq_true_iff
theorem lessB_irrefl (a : ByteArray) : lessB a a = false := by
  rw [Bool.eq_false_iff]
  intro h
  exact absurd (lessB_iff.1 h) (List.lt_irrefl _)
theorem lessB_trans {a b c : ByteArray} (h : lessB a b = true) (k : lessB b c = true) : lessB a c = true := lessB_iff.2 (List.lt_trans (lessB_iff.1 h) (lessB_iff.1 k))
theorem lessB_total {a b : ByteArray} (h : lessB a b = false) (k : lessB b a = false) : a = b := by
  have h1 : ¬ a.toList < b.toList := fun c => by rw [lessB_iff.2 c] at h; cases h
  have h2 : ¬ b.toList < a.toList := fun c => by rw [lessB_iff.2 c] at k; cases k
  exact text_eq (List.le_antisymm (List.not_lt.1 h2) (List.not_lt.1 h1))
def ltS (a b : List Int) : Bool := lessB (textS a) (textS b)
/-- A state that may be written. -/
structure Okz (s : List Int) : Prop where
  inr : ∀ x ∈ s, -9223372036854775808 ≤ x ∧ x ≤ 9223372036854775807
  len : s.length ≤ 9223372036854775807
theorem state_text {s : List Int} (h : Okz s) : stateP (textS s) = (s, ((textS s).size : Int)) := by
  have := state_back s ⟨#[]⟩ h.inr h.len
  rwa [empty_right] at this
theorem text_inj {a b : List Int} (ha : Okz a) (hb : Okz b) (h : textS a = textS b) : a = b := by
  have h1 := state_text ha
  rw [h, state_text hb] at h1
  exact (congrArg Prod.fst h1).symm
theorem ord_ext {α : Type} {lt : α → α → Prop} (hi : ∀ a, ¬ lt a a) (ht : ∀ a b c, lt a b → lt b c → lt a c) : ∀ {a b : List α}, a.Pairwise lt → b.Pairwise lt → (∀ s, s ∈ a ↔ s ∈ b) → a = b
  | [], [], _, _, _ => rfl
  | [], y :: s, _, _, h => absurd ((h y).2 List.mem_cons_self) (by simp)
  | x :: r, [], _, _, h => absurd ((h x).1 List.mem_cons_self) (by simp)
  | x :: r, y :: s, ha, hb, h => by
    obtain ⟨ha1, ha2⟩ := List.pairwise_cons.1 ha
    obtain ⟨hb1, hb2⟩ := List.pairwise_cons.1 hb
    have e : x = y := by
      rcases List.mem_cons.1 ((h x).1 List.mem_cons_self) with e | hx
      · exact e
      · rcases List.mem_cons.1 ((h y).2 List.mem_cons_self) with e | hy
        · exact e.symm
        · exact absurd (ht _ _ _ (hb1 x hx) (ha1 y hy)) (hi y)
    subst e
    have : r = s := ord_ext hi ht ha2 hb2 fun z => by
      constructor
      · intro hz
        rcases List.mem_cons.1 ((h z).1 (List.mem_cons_of_mem _ hz)) with e | k
        · subst e; exact absurd (ha1 _ hz) (hi _)
        · exact k
      · intro hz
        rcases List.mem_cons.1 ((h z).2 (List.mem_cons_of_mem _ hz)) with e | k
        · subst e; exact absurd (hb1 _ hz) (hi _)
        · exact k
    rw [this]
/-- The states of a list, each once, in order. -/
structure US (l r : List (List Int)) : Prop where
  mem : ∀ s, s ∈ r ↔ s ∈ l
  ord : r.Pairwise fun a b => ltS a b = true
theorem ltS_irrefl (a : List Int) : ¬ ltS a a = true := by unfold ltS; rw [lessB_irrefl]; decide
theorem ltS_trans (a b c : List Int) : ltS a b = true → ltS b c = true → ltS a c = true := lessB_trans
theorem US.eq {l l' r r' : List (List Int)} (h : US l r) (h' : US l' r') (hm : ∀ s, s ∈ l ↔ s ∈ l') : r = r' :=
  ord_ext ltS_irrefl ltS_trans h.ord h'.ord fun s => (h.mem s).trans ((hm s).trans (h'.mem s).symm)
theorem US.nil : US [] [] := ⟨fun _ => Iff.rfl, List.Pairwise.nil⟩
theorem US.nodup {l r : List (List Int)} (h : US l r) : r.Nodup := h.ord.imp fun {a b} c e => by subst e; exact ltS_irrefl a c
theorem US.again {l r : List (List Int)} (h : US l r) : US r r := ⟨fun _ => Iff.rfl, h.ord⟩
theorem US.len {l r : List (List Int)} (h : US l r) : r.length ≤ l.length := List.Nodup.length_le_of_subset h.nodup fun s hs => (h.mem s).1 hs
theorem count_ord {r : List (List Int)} (s : List Int) : r.Pairwise (fun a b => ltS a b = true) → ∀ (i : Nat) (x : List Int), r[i]? = some x → (ltS x s = true ↔ i < r.countP (fun u => ltS u s)) := by
  induction r with
  | nil => intro _ i x h; simp at h
  | cons y r ih =>
    intro h i x hx
    obtain ⟨h1, h2⟩ := List.pairwise_cons.1 h
    by_cases c : ltS y s = true
    · rw [List.countP_cons, if_pos c]
      cases i with
      | zero => simp at hx; subst hx; exact ⟨fun _ => by omega, fun _ => c⟩
      | succ i => rw [ih h2 i x (by simpa using hx)]; omega
    · have h0 : r.countP (fun u => ltS u s) = 0 := List.countP_eq_zero.2 fun u hu k => c (ltS_trans _ _ _ (h1 u hu) k)
      rw [List.countP_cons, if_neg c, h0]
      refine ⟨fun k => ?_, fun k => by omega⟩
      cases i with
      | zero => simp at hx; subst hx; exact absurd k c
      | succ i =>
        have hm := List.mem_of_getElem? (show r[i]? = some x by simpa using hx)
        exact absurd (ltS_trans _ _ _ (h1 x hm) k) c
/-- A state that is there already. -/
theorem US.same {p r : List (List Int)} {s : List Int} (h : US p r) (hs : s ∈ r) : US (p ++ [s]) r :=
  ⟨fun t => by
    rw [List.mem_append, List.mem_singleton, h.mem t]
    exact ⟨.inl, fun k => k.elim id fun e => by rw [e]; exact (h.mem s).1 hs⟩, h.ord⟩
/-- A new one, in its place. -/
theorem US.new {p r : List (List Int)} {s : List Int} (h : US p r) (hs : ∀ u ∈ r, textS u ≠ textS s) {n : Nat} (hn : n = r.countP fun u => ltS u s) : US (p ++ [s]) (r.take n ++ [s] ++ r.drop n) := by
  have lo : ∀ x ∈ r.take n, ltS x s = true := fun x hx => by
    obtain ⟨t, ht, rfl⟩ := List.mem_iff_getElem.1 hx
    rw [List.length_take] at ht
    rw [List.getElem_take]
    exact (count_ord s h.ord t _ (List.getElem?_eq_getElem (by omega))).2 (by omega)
  have hi : ∀ x ∈ r.drop n, ltS s x = true := fun x hx => by
    have hm := List.mem_of_mem_drop hx
    obtain ⟨t, ht, rfl⟩ := List.mem_iff_getElem.1 hx
    rw [List.length_drop] at ht
    rw [List.getElem_drop]
    have h3 : ¬ ltS r[n + t] s = true := fun c => by have := (count_ord s h.ord (n + t) _ (List.getElem?_eq_getElem (by omega))).1 c; omega
    cases c : ltS s r[n + t] with
    | true => rfl
    | false => exact absurd (lessB_total (Bool.eq_false_iff.2 h3) c) (hs _ (List.getElem_mem _))
  refine ⟨fun t => ?_, ?_⟩
  · have e : (r.take n ++ [s] ++ r.drop n).Perm (r ++ [s]) := by
      rw [List.append_assoc]
      refine (List.Perm.append_left _ List.perm_append_comm).trans ?_
      rw [← List.append_assoc, List.take_append_drop]
    rw [e.mem_iff, List.mem_append, List.mem_append, h.mem t]
  · rw [List.pairwise_append, List.pairwise_append]
    refine ⟨⟨h.ord.sublist (List.take_sublist _ _), by simp, fun a ha b hb => by rw [List.mem_singleton.1 hb]; exact lo a ha⟩, h.ord.sublist (List.drop_sublist _ _), fun a ha b hb => ?_⟩
    rcases List.mem_append.1 ha with ha | ha
    · exact ltS_trans _ _ _ (lo a ha) (hi b hb)
    · rw [List.mem_singleton.1 ha]; exact hi b hb
section
variable {α : Type} [Inhabited α] [DecidableEq α]
omit [DecidableEq α] in
theorem get_arr (zs : List α) {j : Nat} (h : j < zs.length) : zs.toArray[j]! = zs[j] := by
  rw [getElem!_pos zs.toArray j (by simpa using h)]
  simp
theorem compact_mem (zs : List α) (x : α) : x ∈ Lib.compact zs ↔ x ∈ zs := by
  unfold Lib.compact Lib.compactUpTo
  rw [List.mem_map]
  constructor
  · rintro ⟨j, hj, rfl⟩
    have hl := List.mem_range.1 (List.mem_filter.1 hj).1
    rw [get_arr zs hl]
    exact List.getElem_mem _
  · intro hx
    have key : ∀ j, (hj : j < zs.length) → zs[j] = x → ∃ k, k ∈ (List.range zs.length).filter (Lib.keeps zs.toArray) ∧ zs.toArray[k]! = x := by
      intro j
      induction j with
      | zero => intro hj e; exact ⟨0, List.mem_filter.2 ⟨List.mem_range.2 hj, by simp [Lib.keeps]⟩, by rw [get_arr zs hj]; exact e⟩
      | succ j ih =>
        intro hj e
        by_cases c : zs[j] = x
        · exact ih (by omega) c
        · refine ⟨j + 1, List.mem_filter.2 ⟨List.mem_range.2 hj, ?_⟩, by rw [get_arr zs hj]; exact e⟩
          refine Lib.keeps_pos ?_
          rw [Nat.add_sub_cancel, get_arr zs hj, get_arr zs (show j < zs.length by omega), e]
          exact fun k => c k.symm
    obtain ⟨j, hj, e⟩ := List.mem_iff_getElem.1 hx
    exact key j hj e
theorem compact_rise (zs : List α) {lt : α → α → Prop} (ht : ∀ a b c, lt a b → lt b c → lt a c) (hs : zs.Pairwise fun a b => lt a b ∨ a = b) : (Lib.compact zs).Pairwise lt := by
  unfold Lib.compact Lib.compactUpTo
  rw [List.pairwise_map]
  refine List.Pairwise.imp_of_mem ?_ ((List.pairwise_lt_range (n := zs.length)).filter _)
  intro j k hj hk hjk
  have hlj := List.mem_range.1 (List.mem_filter.1 hj).1
  have hlk := List.mem_range.1 (List.mem_filter.1 hk).1
  have hkk := (List.mem_filter.1 hk).2
  unfold Lib.keeps at hkk
  have hne : zs.toArray[k]! ≠ zs.toArray[k - 1]! := by
    rcases of_decide_eq_true hkk with c | c
    · omega
    · exact c
  have hl1 : k - 1 < zs.length := by omega
  rw [get_arr zs hlk, get_arr zs hl1] at hne
  rw [get_arr zs hlj, get_arr zs hlk]
  have h2 : lt zs[k - 1] zs[k] := by
    rcases List.pairwise_iff_getElem.1 hs (k - 1) k hl1 hlk (by omega) with c | c
    · exact c
    · exact absurd c.symm hne
  by_cases e : j = k - 1
  · subst e; exact h2
  · rcases List.pairwise_iff_getElem.1 hs j (k - 1) hlj hl1 (by omega) with c | c
    · exact ht _ _ _ c h2
    · rw [c]; exact h2
end
/-- A text as the list of its bytes. -/
def bytesOf (s : ByteArray) : List UInt8 := s.data.toList
theorem bytes_back (s : ByteArray) : (⟨(bytesOf s).toArray⟩ : ByteArray) = s := by unfold bytesOf; simp
theorem lessB_bytes (a b : ByteArray) : lessB a b = decide (bytesOf a < bytesOf b) := by
  unfold lessB bytesOf
  rw [bytesLess_eq, ByteArray.toList_eq, ByteArray.toList_eq]
/-- What texts, sorted, each once, say of states. -/
theorem us_sorted {l : List (List Int)} (h : ∀ s ∈ l, Okz s) : US l ((Lib.compact ((l.map fun s => bytesOf (textS s)).mergeSort fun x y => decide (x ≤ y))).map fun t => (stateP ⟨t.toArray⟩).1) := by
  have hm : ∀ t, t ∈ Lib.compact ((l.map fun s => bytesOf (textS s)).mergeSort fun x y => decide (x ≤ y)) ↔ ∃ s ∈ l, bytesOf (textS s) = t := fun t => by
    rw [compact_mem, List.mem_mergeSort, List.mem_map]
  have hs : ((l.map fun s => bytesOf (textS s)).mergeSort fun x y => decide (x ≤ y)).Pairwise fun a b => a < b ∨ a = b := by
    have := List.pairwise_mergeSort (le := fun x y : List UInt8 => decide (x ≤ y)) (fun a b c h k => decide_eq_true (List.le_trans (of_decide_eq_true h) (of_decide_eq_true k))) (fun a b => by
      rcases List.le_total a b with c | c
      · simp [c]
      · simp [c]) (l.map fun s => bytesOf (textS s))
    refine this.imp fun {a b} c => ?_
    have c := of_decide_eq_true c
    by_cases e : a = b
    · exact .inr e
    · refine .inl (Classical.byContradiction fun k => e (List.le_antisymm c (List.not_lt.1 k)))
  have hp := compact_rise _ (lt := fun a b : List UInt8 => a < b) (fun a b c h k => List.lt_trans h k) hs
  refine ⟨fun s => ?_, ?_⟩
  · rw [List.mem_map]
    constructor
    · rintro ⟨t, ht, rfl⟩
      obtain ⟨s, hs, rfl⟩ := (hm t).1 ht
      rw [bytes_back, state_text (h s hs)]
      exact hs
    · intro hs
      exact ⟨_, (hm _).2 ⟨s, hs, rfl⟩, by rw [bytes_back, state_text (h s hs)]⟩
  · rw [List.pairwise_map]
    refine List.Pairwise.imp_of_mem ?_ hp
    intro a b ha hb hab
    obtain ⟨s, hs, rfl⟩ := (hm a).1 ha
    obtain ⟨t, ht, rfl⟩ := (hm b).1 hb
    rw [bytes_back, bytes_back, state_text (h s hs), state_text (h t ht)]
    unfold ltS
    rw [lessB_bytes]
    exact decide_eq_true hab
end Ln
end Go.Proofs.Ytppjmmdiglnkfaa
