/- Writes and flushes that a crash cuts short: plain. What a crash leaves of a commit, and of what brings pages home: plain. Cut short, what brings pages home leaves them in the journal, or home: plain. Cut short, a commit is done whole, or not at all: plain. Disks behind crashes, as the laws speak of them: plain. -/
import Derived.Test.YtfcicpcpdklceaaSFree
import Derived.Test.YtfcicpcpdklceaaSY
namespace Go.Proofs.Ytfcicpcpdklceaa
set_option maxRecDepth 100000
open Go.ChangeShapes Go.WideShapes Go.ChangeAt Go.RowKit Go.PlainAid

/-- The disk, but with power, and no limit. -/
def D.fr (d : D) : D := { d with limit := -1, dark := false }
theorem fr_free (d : D) : d.fr.free := ⟨rfl, rfl⟩
theorem fr_same {d : D} (h : d.free) : d.fr = d := by
  obtain ⟨n, s, l, lim, dk⟩ := d
  obtain ⟨rfl, rfl⟩ : lim = -1 ∧ dk = false := h
  rfl
theorem fr_crash_to (d : D) (m t c : Int) : ∀ k, d.fr.crashTo m t c k = d.crashTo m t c k
  | 0 => rfl
  | k + 1 => by
    have ih := fr_crash_to d m t c k
    cases hx : d.late[k]? with
    | none => rw [D.crashTo_none hx, D.crashTo_none (d := d.fr) hx, ih]
    | some x =>
      cases hb : bitB m k with
      | false => rw [D.crashTo_lost hx hb, D.crashTo_lost (d := d.fr) hx hb, ih]
      | true => rw [D.crashTo_kept hx hb, D.crashTo_kept (d := d.fr) hx hb, ih]
theorem fr_crash (d : D) (m t c : Int) : d.fr.crash m t c = d.crash m t c := by
  unfold D.crash
  rw [show d.fr.late.length = d.late.length from rfl, fr_crash_to d m t c]
  rfl
/-- One write, or flush, of a disk that has power: it is done, or the power goes. -/
theorem op_fr {d : D} (hd : d.dark = false) {o : DOp} (ok : OkOp d.n o) : (opE d o = 0 ∧ (d.op o).fr = d.fr.op o ∧ (d.op o).dark = false) ∨ (opE d o = 11 ∧ (d.op o).fr = d.fr ∧ 0 ≤ d.limit) := by
  have hsp : spendE d = 0 ∨ spendE d = 11 ∧ 0 ≤ d.limit := by
    unfold spendE
    split
    · rename_i h; exact .inr ⟨rfl, by omega⟩
    · exact .inl rfl
  have hs2 := spent_same d
  have hdk : spendE d = 0 → d.spent.dark = false := fun h => by
    unfold spendE at h
    unfold D.spent
    by_cases z : d.limit = 0
    · rw [if_pos z] at h; cases h
    · rw [if_neg z]; split <;> exact hd
  have hfr : d.spent.fr = d.fr := by
    obtain ⟨a, b, c⟩ := hs2
    unfold D.fr
    rw [a, b, c]
  cases o with
  | wr k s =>
    obtain ⟨a, b, c⟩ := ok
    have hr : reachE d k = 0 := by unfold reachE; rw [hd, if_neg (by decide), if_neg (by omega)]
    have e1 : opE d (.wr k s) = spendE d := by show writeE d k s = _; unfold writeE; rw [if_pos hr, if_neg (by omega)]
    have e2 : d.op (.wr k s) = if spendE d = 0 then { d.spent with late := d.spent.late ++ [(k.toNat, filled s)] } else d.spent := by
      show d.write k s = _
      unfold D.write
      rw [if_pos hr, if_neg (by omega)]
    have e3 : d.fr.op (.wr k s) = { d.fr with late := d.late ++ [(k.toNat, filled s)] } := free_write (fr_free d) a b c
    rcases hsp with z | ⟨z, hz⟩
    · left
      rw [e1, e2, if_pos z, e3]
      refine ⟨z, ?_, hdk z⟩
      obtain ⟨a, b, c⟩ := hs2
      unfold D.fr
      simp [a, b, c]
    · right
      rw [e1, e2, if_neg (by rw [z]; decide)]
      exact ⟨z, hfr, hz⟩
  | fl =>
    have hr : readyE d = 0 := by unfold readyE; rw [hd]; rfl
    have e1 : opE d .fl = spendE d := by show flushE d = _; unfold flushE; rw [if_pos hr]
    have e2 : d.op .fl = if spendE d = 0 then d.spent.flushed else d.spent := by show d.flush = _; unfold D.flush; rw [if_pos hr]
    have e3 : d.fr.op .fl = d.fr.flushed := free_flush (fr_free d)
    rcases hsp with z | ⟨z, hz⟩
    · left
      rw [e1, e2, if_pos z, e3]
      refine ⟨z, ?_, hdk z⟩
      obtain ⟨a, b, c⟩ := hs2
      unfold D.flushed D.fr D.last
      simp only [a, b, c]
    · right
      rw [e1, e2, if_neg (by rw [z]; decide)]
      exact ⟨z, hfr, hz⟩
/-- P holds of the disk, and behind each of the writes and flushes. -/
def AllPre (P : D → Prop) : D → List DOp → Prop
  | d, [] => P d
  | d, o :: l => P d ∧ AllPre P (d.op o) l
theorem AllPre.head {P : D → Prop} {d : D} {l : List DOp} (h : AllPre P d l) : P d := by
  cases l with
  | nil => exact h
  | cons o l => exact h.1
/-- Cut short by the limit, the disk is what it is behind some of them; and behind all, if that ended without an error. -/
theorem ops_cut {P : D → Prop} : ∀ (l : List DOp) {d : D}, d.dark = false → (∀ o ∈ l, OkOp d.n o) → AllPre P d.fr l → P (d.ops l).fr ∧ (opsE d l = 0 → (d.ops l).fr = d.fr.ops l ∧ (d.ops l).dark = false) ∧ (opsE d l = 0 ∨ opsE d l = 11)
  | [], d, hd, _, h => ⟨h, fun _ => ⟨rfl, hd⟩, .inl rfl⟩
  | o :: l, d, hd, hok, h => by
    rcases op_fr hd (hok o List.mem_cons_self) with ⟨e, hf, hdk⟩ | ⟨e, hf, _⟩
    · have h2 : AllPre P (d.op o).fr l := by rw [hf]; exact h.2
      obtain ⟨a, b, c⟩ := ops_cut l hdk (fun o' ho' => by rw [op_n]; exact hok o' (List.mem_cons_of_mem _ ho')) h2
      rw [(ops_cons_ok l e).1, (ops_cons_ok l e).2]
      refine ⟨a, fun z => ?_, c⟩
      have e2 : opE d.fr o = 0 := (free_op (fr_free d) (hok o List.mem_cons_self)).1
      rw [(b z).1, (ops_cons_ok l e2).1, hf]
      exact ⟨rfl, (b z).2⟩
    · have e2 : opE d o ≠ 0 := by rw [e]; decide
      rw [(ops_cons_err l e2).1, (ops_cons_err l e2).2, hf]
      exact ⟨h.1, fun z => absurd z e2, .inr e⟩
theorem allPre_app {P : D → Prop} : ∀ (a b : List DOp) {d : D}, d.free → (∀ o ∈ a, OkOp d.n o) → AllPre P d a → AllPre P (d.ops a) b → AllPre P d (a ++ b)
  | [], _, _, _, _, _, hb => hb
  | o :: a, b, d, hf, hok, ha, hb => by
    obtain ⟨e, hf2, _⟩ := free_op hf (hok o List.mem_cons_self)
    rw [(ops_cons_ok a e).1] at hb
    exact ⟨ha.1, allPre_app a b hf2 (fun o' ho' => by rw [op_n]; exact hok o' (List.mem_cons_of_mem _ ho')) ha.2 hb⟩
theorem allPre_inv {P Inv : D → Prop} (hP : ∀ d, Inv d → P d) : ∀ (l : List DOp) {d : D}, (∀ o ∈ l, ∀ d, Inv d → Inv (d.op o)) → Inv d → AllPre P d l
  | [], _, _, h => hP _ h
  | o :: l, d, hs, h => ⟨hP _ h, allPre_inv hP l (fun o' ho' => hs o' (List.mem_cons_of_mem _ ho')) (hs o List.mem_cons_self d h)⟩
/-- The safe blocks are S, and just blocks of K are late. -/
structure Phase (N : Nat) (S : Nat → ByteArray) (K : Nat → Prop) (d : D) : Prop where
  free : d.free
  n : d.n = N
  safe : d.safe = S
  late : ∀ x ∈ d.late, K x.1
theorem Phase.wr {N : Nat} {S : Nat → ByteArray} {K : Nat → Prop} {d : D} (h : Phase N S K d) {k : Int} {s : ByteArray} (ok : OkOp N (.wr k s)) (hk : K k.toNat) : Phase N S K (d.op (.wr k s)) := by
  obtain ⟨a, b, c⟩ := ok
  have e : d.op (.wr k s) = { d with late := d.late ++ [(k.toNat, filled s)] } := free_write h.free a (by rw [h.n]; exact b) c
  rw [e]
  exact ⟨h.free, h.n, h.safe, fun x hx => by
    rcases List.mem_append.1 hx with hx | hx
    · exact h.late x hx
    · rw [List.mem_singleton] at hx; subst hx; exact hk⟩
/-- What a crash in such a phase leaves. -/
theorem Phase.crash {N : Nat} {S : Nat → ByteArray} {K : Nat → Prop} {d : D} (h : Phase N S K d) (m t c : Int) : (d.crash m t c).free ∧ (d.crash m t c).late = [] ∧ (d.crash m t c).n = N ∧ ∀ k, ¬ K k → (d.crash m t c).last k = S k := by
  refine ⟨⟨rfl, rfl⟩, rfl, h.n, fun k hk => ?_⟩
  show d.crashTo m t c d.late.length k = S k
  rw [D.crashTo_off m t c k (fun x hx e => hk (by rw [← e]; exact h.late x hx)), h.safe]
/-- .. where just one write is late. -/
theorem crash_one {d : D} {k : Nat} {s : ByteArray} (hl : d.late = [(k, s)]) (m t c : Int) : (d.crash m t c).last k = d.safe k ∨ ∃ z, (d.crash m t c).last k = mixed s (d.safe k) z := by
  have e : (d.crash m t c).last k = d.crashTo m t c 1 k := by
    show d.crashTo m t c d.late.length k = _
    rw [hl]; rfl
  rw [e]
  have hx : d.late[0]? = some (k, s) := by rw [hl]; rfl
  cases hb : bitB m 0 with
  | false => rw [D.crashTo_lost hx hb]; exact .inl rfl
  | true =>
    rw [D.crashTo_kept hx hb, upd_same]
    exact .inr ⟨_, rfl⟩
theorem mixed_mixed (a b : ByteArray) (x y : Nat) : mixed a (mixed a b x) y = mixed a b (max x y) := by
  refine text_ext (by rw [mixed_size, mixed_size]) fun j hj => ?_
  rw [mixed_size] at hj
  rw [mixed_bt a (mixed a b x) y hj, mixed_bt a b (max x y) hj]
  by_cases c : j < y
  · rw [if_pos c, if_pos (by omega)]
  · rw [if_neg c, mixed_bt a b x hj]
    by_cases c2 : j < x
    · rw [if_pos c2, if_pos (by omega)]
    · rw [if_neg c2, if_neg (by omega)]
theorem mixed_zero (a b : ByteArray) (hb : b.size = 256) : mixed a b 0 = b := by
  refine text_ext (by rw [mixed_size, hb]) fun j hj => ?_
  rw [mixed_size] at hj
  rw [mixed_bt _ _ _ hj, if_neg (by omega)]
end Go.Proofs.Ytfcicpcpdklceaa
namespace Go.Proofs.Ytfcicpcpdklceaa
set_option maxRecDepth 100000
open Go.ChangeShapes Go.WideShapes Go.ChangeAt Go.RowKit Go.PlainAid

theorem notS_bt (s : ByteArray) {j : Nat} (h : j < s.size) : bt (notS s) j = 255 - bt s j := by
  have h0 := bt_nonneg s j
  have h1 := bt_le s j
  have e := notS_get s j h
  unfold notS
  rw [bt_strOfNums _ j (by rw [e]; omega) (by rw [e]; omega), e]
theorem headOk_bt {b : ByteArray} (h : headOk b) {j : Nat} (hj : j < 20) : 255 - bt b j = bt b (20 + j) := by
  obtain ⟨hs, he⟩ := h
  have e1 : bt (notS (b.extract 0 20)) j = 255 - bt (b.extract 0 20) j := notS_bt _ (by rw [ByteArray.size_extract]; omega)
  rw [he, bt_ext _ _ _ _ hs (by omega), bt_ext _ _ _ _ (by omega) (by omega), Nat.zero_add] at e1
  exact e1.symm
theorem ext_same {a b : ByteArray} (ha : 40 ≤ a.size) (hb : 40 ≤ b.size) (h : ∀ j, j < 20 → bt a j = bt b j) : a.extract 0 20 = b.extract 0 20 := by
  refine text_ext (by rw [ByteArray.size_extract, ByteArray.size_extract]; omega) fun j hj => ?_
  have hj2 : j < 20 := by rw [ByteArray.size_extract] at hj; omega
  rw [bt_ext _ _ _ _ (by omega) (by omega), bt_ext _ _ _ _ (by omega) (by omega), Nat.zero_add]
  exact h j hj2
/-- What the block of the other head may hold, and what it reads as. -/
def OldB (B : ByteArray) (k n : Nat) (o : Option Hd) : Prop := (B = zeroText ∧ o = none) ∨ ∃ x, B = filled x.text ∧ o = some x ∧ Fits x k n
theorem OldB.size {B : ByteArray} {k n : Nat} {o : Option Hd} (h : OldB B k n o) : B.size = 256 := by
  rcases h with ⟨rfl, _⟩ | ⟨x, rfl, _⟩
  · exact zeroText_size
  · exact filled_size _
theorem OldB.reads {B : ByteArray} {k n : Nat} {o : Option Hd} (h : OldB B k n o) (hn : n ≤ 2048) : ReadsAs B k n o := by
  rcases h with ⟨rfl, rfl⟩ | ⟨x, rfl, rfl, hf⟩
  · exact reads_zero _ _
  · exact reads_head hf hn
/-- Of a head that is written over it, of which just the first bytes arrive, one of both is read, or none. -/
theorem torn_read {new : Hd} {B : ByteArray} {k n : Nat} {o : Option Hd} (hf : Fits new k n) (hn : n ≤ 2048) (hB : OldB B k n o) (z : Nat) : ∃ o', ReadsAs (mixed (filled new.text) B z) k n o' ∧ (o' = none ∨ o' = o ∨ o' = some new) := by
  by_cases hok : headOk (mixed (filled new.text) B z)
  · have hms : (mixed (filled new.text) B z).size = 256 := mixed_size _ _ _
    by_cases hz : 20 ≤ z
    · refine ⟨some new, ⟨hok, ?_, hf⟩, .inr (.inr rfl)⟩
      obtain ⟨_, r2, _⟩ := reads_head hf hn
      rw [← r2]
      have e : (mixed (filled new.text) B z).extract 0 20 = (filled new.text).extract 0 20 := ext_same (by omega) (by rw [filled_size]; decide) (fun j hj => by rw [mixed_bt _ _ _ (by omega), if_pos (by omega)])
      rw [fields_of _ _ e, fields_of (filled new.text) _ rfl]
    · have hlow : ∀ j, j < 20 → bt (mixed (filled new.text) B z) (20 + j) = bt B (20 + j) := fun j hj => by rw [mixed_bt _ _ _ (by omega), if_neg (by omega)]
      rcases hB with ⟨rfl, rfl⟩ | ⟨x, rfl, rfl, hx⟩
      · have h1 := headOk_bt hok (j := 19) (by decide)
        rw [hlow 19 (by decide), zeroText_bt, mixed_bt _ _ _ (by decide), if_neg (by omega), zeroText_bt] at h1
        cases h1
      · obtain ⟨r1, r2, _⟩ := reads_head hx hn
        refine ⟨some x, ⟨hok, ?_, hx⟩, .inr (.inl rfl)⟩
        rw [← r2]
        have e : (mixed (filled new.text) (filled x.text) z).extract 0 20 = (filled x.text).extract 0 20 := ext_same (by omega) (by rw [filled_size]; decide) (fun j hj => by
          have a := headOk_bt hok hj
          have b := headOk_bt r1 hj
          rw [hlow j hj] at a
          omega)
        rw [fields_of _ _ e, fields_of (filled x.text) _ rfl]
  · exact ⟨none, hok, .inl rfl⟩
/-- The journal is in use: the pages are to be brought home. -/
structure Mid (d : D) (h0 : Hd) (l : List PageV) (X : Nat → ByteArray) : Prop where
  free : d.free
  late : d.late = []
  n : 2 + h0.room + h0.pages ≤ d.n
  hi : d.n ≤ 2048
  room : (packB l).length ≤ h0.room
  cur : ReadsAs (d.last ((h0.seq + 1) % 2)) ((h0.seq + 1) % 2) d.n (some (h0.next (packB l).length))
  oth : ∃ z, d.last (h0.seq % 2) = mixed (filled (h0.behind (packB l).length).text) (filled h0.text) z
  read : ∃ o, ReadsAs (d.last (h0.seq % 2)) (h0.seq % 2) d.n o ∧ (o = none ∨ o = some h0)
  jour : ∀ i s, (packB l)[i]? = some s → d.last (2 + i) = s
  pages : ∀ k : Nat, k < h0.pages → (∀ x ∈ l, x.at_ ≠ (k : Int)) → d.last (2 + h0.room + k) = X k
/-- A disk behind a crash: none of the transaction, or all of it, or all of it in the journal. -/
def Good (h0 : Hd) (l : List PageV) (X Y : Nat → ByteArray) (d : D) : Prop :=
  (∃ o, Settled d h0 o ∧ ∀ k : Nat, k < h0.pages → d.last (2 + h0.room + k) = X k) ∨ Mid d h0 l X ∨
  (∃ o, Settled d (h0.behind (packB l).length) o ∧ ∀ k : Nat, k < h0.pages → d.last (2 + h0.room + k) = Y k)
def CrashGood (h0 : Hd) (l : List PageV) (X Y : Nat → ByteArray) (d : D) : Prop := ∀ m t c, Good h0 l X Y (d.crash m t c)
/-- The pages are home, and the next head is written, or not, or in part. -/
structure AtHome (d : D) (h0 : Hd) (l : List PageV) (X Y : Nat → ByteArray) : Prop where
  free : d.free
  late : d.late = []
  n : 2 + h0.room + h0.pages ≤ d.n
  hi : d.n ≤ 2048
  room : (packB l).length ≤ h0.room
  cur : ReadsAs (d.last ((h0.seq + 1) % 2)) ((h0.seq + 1) % 2) d.n (some (h0.next (packB l).length))
  oth : ∃ z, d.last (h0.seq % 2) = mixed (filled (h0.behind (packB l).length).text) (filled h0.text) z
  jour : ∀ i s, (packB l)[i]? = some s → d.last (2 + i) = s
  pages : ∀ k : Nat, k < h0.pages → d.last (2 + h0.room + k) = Y k
  same : ∀ k : Nat, k < h0.pages → (∀ x ∈ l, x.at_ ≠ (k : Int)) → Y k = X k
theorem fits_behind {h0 : Hd} (P : Plain h0) {n m : Nat} (hn : 2 + h0.room + h0.pages ≤ n) (hs : h0.seq + 2 ≤ 1000000) : Fits (h0.behind m) (h0.seq % 2) n :=
  ⟨by show (h0.seq + 1 + 1) % 2 = _; omega, P.room, P.pages, P.pages1, Nat.zero_le _, hn, by show h0.seq + 1 + 1 ≤ _; omega⟩
theorem AtHome.good {d : D} {h0 : Hd} {l : List PageV} {X Y : Nat → ByteArray} (H : AtHome d h0 l X Y) (P : Plain h0) (hs : h0.seq + 2 ≤ 1000000) (hf0 : Fits h0 (h0.seq % 2) d.n) : Good h0 l X Y d := by
  obtain ⟨z, hz⟩ := H.oth
  obtain ⟨o', hr, hc⟩ := torn_read (fits_behind P H.n hs (m := (packB l).length)) H.hi (.inr ⟨h0, rfl, rfl, hf0⟩) z
  rw [← hz] at hr
  have mid : (o' = none ∨ o' = some h0) → Good h0 l X Y d := fun hh => .inr (.inl ⟨H.free, H.late, H.n, H.hi, H.room, H.cur, H.oth, ⟨o', hr, hh⟩, H.jour, fun k hk hx => by rw [H.pages k hk]; exact H.same k hk hx⟩)
  rcases hc with hc | hc | hc
  · exact mid (.inl hc)
  · exact mid (.inr hc)
  · subst hc
    refine .inr (.inr ⟨some (h0.next (packB l).length), ⟨H.free, H.late, H.n, H.hi, rfl, ?_, ?_, fun x hx => ?_⟩, H.pages⟩)
    · have e : (h0.behind (packB l).length).seq % 2 = h0.seq % 2 := by show (h0.seq + 1 + 1) % 2 = _; omega
      rw [e]; exact hr
    · have e : ((h0.behind (packB l).length).seq + 1) % 2 = (h0.seq + 1) % 2 := by show (h0.seq + 1 + 1 + 1) % 2 = _; omega
      rw [e]; exact H.cur
    · obtain rfl : h0.next (packB l).length = x := by simpa using hx
      show h0.seq + 1 < h0.seq + 1 + 1
      omega
end Go.Proofs.Ytfcicpcpdklceaa
namespace Go.Proofs.Ytfcicpcpdklceaa
set_option maxRecDepth 100000
open Go.ChangeShapes Go.WideShapes Go.ChangeAt Go.RowKit Go.PlainAid

theorem last_safe {d : D} (h : d.late = []) : d.last = d.safe := by unfold D.last; rw [h]; rfl
theorem crash_still {d : D} (h : d.late = []) (m t c : Int) : (d.crash m t c).last = d.last := by
  rw [last_safe h]
  show done (d.crashTo m t c d.late.length) [] = d.safe
  rw [h]; rfl
theorem phase_ops {N : Nat} {S : Nat → ByteArray} {K : Nat → Prop} : ∀ (l : List DOp) {d : D}, (∀ o ∈ l, ∀ d, Phase N S K d → Phase N S K (d.op o)) → (∀ o ∈ l, OkOp N o) → Phase N S K d → Phase N S K (d.ops l)
  | [], _, _, _, h => h
  | o :: l, d, hs, hok, h => by
    have e := (free_op h.free (by rw [h.n]; exact hok o List.mem_cons_self)).1
    rw [(ops_cons_ok l e).1]
    exact phase_ops l (fun o' ho' => hs o' (List.mem_cons_of_mem _ ho')) (fun o' ho' => hok o' (List.mem_cons_of_mem _ ho')) (hs o List.mem_cons_self d h)
theorem flush_op {d : D} (h : d.free) : d.op .fl = d.flushed := free_flush h
theorem flushed_facts {d : D} (h : d.free) : d.flushed.free ∧ d.flushed.late = [] ∧ d.flushed.n = d.n ∧ d.flushed.last = d.last := ⟨h, rfl, rfl, rfl⟩
section
variable {d d' : D} {h0 : Hd} {l : List PageV} {X Y : Nat → ByteArray}
theorem AtHome.of (H : AtHome d h0 l X Y) (hf : d'.free) (hl : d'.late = []) (hn : d'.n = d.n) (ho : ∀ k, k ≠ h0.seq % 2 → d'.last k = d.last k) (hz : ∃ z, d'.last (h0.seq % 2) = mixed (filled (h0.behind (packB l).length).text) (filled h0.text) z) : AtHome d' h0 l X Y := by
  have hr := H.room
  refine ⟨hf, hl, by rw [hn]; exact H.n, by rw [hn]; exact H.hi, H.room, ?_, hz, fun i s hi => ?_, fun k hk => ?_, H.same⟩
  · rw [ho _ (by omega), hn]; exact H.cur
  · rw [ho _ (by omega)]; exact H.jour i s hi
  · rw [ho _ (by omega)]; exact H.pages k hk
theorem AtHome.crash (H : AtHome d h0 l X Y) (m t c : Int) : AtHome (d.crash m t c) h0 l X Y :=
  H.of ⟨rfl, rfl⟩ rfl rfl (fun k _ => by rw [crash_still H.late]) (by obtain ⟨z, hz⟩ := H.oth; exact ⟨z, by rw [crash_still H.late]; exact hz⟩)
/-- What the pages' writes are about. -/
def PageK (h0 : Hd) (l : List PageV) (k : Nat) : Prop := ∃ x ∈ l, k = 2 + h0.room + x.at_.toNat
theorem phase_page {N : Nat} {S : Nat → ByteArray} (hf : Fit h0 l) (hN : 2 + h0.room + h0.pages ≤ N) : ∀ o ∈ pageOps h0.room l, ∀ d, Phase N S (PageK h0 l) d → Phase N S (PageK h0 l) (d.op o) := by
  intro o ho d hd
  obtain ⟨x, hx, rfl⟩ := mem_pageOps ho
  obtain ⟨a, b, c⟩ := hf x hx
  exact hd.wr ⟨by omega, by omega, c⟩ ⟨x, hx, by omega⟩
theorem Mid.phase (M : Mid d h0 l X) (hf : Fit h0 l) {e : D} (hp : Phase d.n d.last (PageK h0 l) e) : CrashGood h0 l X Y e := by
  intro m t c
  obtain ⟨a1, a2, a3, a4⟩ := hp.crash m t c
  have hr := M.room
  have off : ∀ k, k < 2 + h0.room → (e.crash m t c).last k = d.last k := fun k hk => a4 k (by rintro ⟨x, hx, rfl⟩; omega)
  refine .inr (.inl ⟨a1, a2, by rw [a3]; exact M.n, by rw [a3]; exact M.hi, M.room, ?_, ?_, ?_, fun i s hi => ?_, fun k hk hx => ?_⟩)
  · rw [off _ (by omega), a3]; exact M.cur
  · rw [off _ (by omega)]; exact M.oth
  · rw [off _ (by omega), a3]; exact M.read
  · have hi2 := (List.getElem?_eq_some_iff.1 hi).1
    rw [off _ (by omega)]; exact M.jour i s hi
  · rw [a4 _ (by
      rintro ⟨x, hx2, he⟩
      obtain ⟨p, q, _⟩ := hf x hx2
      exact hx x hx2 (by omega))]
    exact M.pages k hk hx
theorem home_cut (M : Mid d h0 l X) (P : Plain h0) (hs : h0.seq + 2 ≤ 1000000) (hf0 : Fits h0 (h0.seq % 2) d.n) (hf : Fit h0 l) (hY : ∀ k : Nat, k < h0.pages → (∀ x ∈ l, x.at_ ≠ (k : Int)) → Y k = X k) (hYl : ∀ k : Nat, k < h0.pages → lasts d.last (pageOps h0.room l) (2 + h0.room + k) = Y k) :
    AllPre (CrashGood h0 l X Y) d (homeOps (h0.next (packB l).length) l) ∧ AtHome (d.ops (homeOps (h0.next (packB l).length) l)) h0 l X Y ∧ (d.ops (homeOps (h0.next (packB l).length) l)).last (h0.seq % 2) = filled (h0.behind (packB l).length).text := by
  have hr := M.room
  have hpok : ∀ o ∈ pageOps h0.room l, OkOp d.n o := page_ok hf M.n
  have ph0 : Phase d.n d.last (PageK h0 l) d := ⟨M.free, rfl, (last_safe M.late).symm, fun x hx => by rw [M.late] at hx; cases hx⟩
  have ph2 : Phase d.n d.last (PageK h0 l) (d.ops (pageOps h0.room l)) := phase_ops _ (phase_page hf M.n) hpok ph0
  obtain ⟨e2, f2, l2⟩ := free_ops _ M.free hpok
  -- behind the flush
  have q0 : (h0.behind (packB l).length).seq % 2 = h0.seq % 2 := by show (h0.seq + 1 + 1) % 2 = _; omega
  generalize hd2 : d.ops (pageOps h0.room l) = d2 at *
  obtain ⟨g1, g2, g3, g4⟩ := flushed_facts f2
  have off2 : ∀ k, k < 2 + h0.room → d2.last k = d.last k := fun k hk => by rw [l2]; exact lasts_off k _ _ (page_off hf hk)
  have A3 : AtHome d2.flushed h0 l X Y := by
    refine ⟨g1, g2, by rw [g3, ph2.n]; exact M.n, by rw [g3, ph2.n]; exact M.hi, M.room, ?_, ?_, fun i s hi => ?_, fun k hk => ?_, hY⟩
    · rw [g4, off2 _ (by omega), g3, ph2.n]; exact M.cur
    · rw [g4, off2 _ (by omega)]; exact M.oth
    · have hi2 := (List.getElem?_eq_some_iff.1 hi).1
      rw [g4, off2 _ (by omega)]; exact M.jour i s hi
    · rw [g4, l2]; exact hYl k hk
  have n3 : d2.flushed.n = d.n := by rw [g3, ph2.n]
  generalize hd3 : d2.flushed = d3 at *
  have okw : OkOp d3.n (.wr (((h0.behind (packB l).length).seq % 2 : Nat) : Int) (h0.behind (packB l).length).text) := ⟨by omega, by have := A3.n; omega, by rw [Hd.text_size]; omega⟩
  obtain ⟨e4, f4, l4⟩ := free_op g1 okw
  have d4e : d3.op (.wr (((h0.behind (packB l).length).seq % 2 : Nat) : Int) (h0.behind (packB l).length).text) = { d3 with late := [(h0.seq % 2, filled (h0.behind (packB l).length).text)] } := by
    show d3.write _ _ = _
    rw [free_write g1 okw.1 okw.2.1 okw.2.2, g2, Int.toNat_natCast, q0]
    rfl
  have l4' : (d3.op (.wr (((h0.behind (packB l).length).seq % 2 : Nat) : Int) (h0.behind (packB l).length).text)).last = upd d3.last (h0.seq % 2) (filled (h0.behind (packB l).length).text) := by
    rw [l4]
    show upd d3.last (((h0.behind (packB l).length).seq % 2 : Nat) : Int).toNat _ = _
    rw [Int.toNat_natCast, q0]
  have n4 := op_n d3 (.wr (((h0.behind (packB l).length).seq % 2 : Nat) : Int) (h0.behind (packB l).length).text)
  have A4 : CrashGood h0 l X Y (d3.op (.wr (((h0.behind (packB l).length).seq % 2 : Nat) : Int) (h0.behind (packB l).length).text)) := by
    intro m t c
    have hlate : (d3.op (.wr (((h0.behind (packB l).length).seq % 2 : Nat) : Int) (h0.behind (packB l).length).text)).late = [(h0.seq % 2, filled (h0.behind (packB l).length).text)] := by rw [d4e]
    have hsafe : (d3.op (.wr (((h0.behind (packB l).length).seq % 2 : Nat) : Int) (h0.behind (packB l).length).text)).safe = d3.last := by rw [d4e, last_safe g2]
    have hone := crash_one hlate m t c
    rw [hsafe] at hone
    refine (A3.of (d' := (d3.op (.wr (((h0.behind (packB l).length).seq % 2 : Nat) : Int) (h0.behind (packB l).length).text)).crash m t c) ⟨rfl, rfl⟩ rfl n4 (fun k hk => ?_) ?_).good P hs (by
      have : ((d3.op (.wr (((h0.behind (packB l).length).seq % 2 : Nat) : Int) (h0.behind (packB l).length).text)).crash m t c).n = d.n := n4.trans n3
      rw [this]; exact hf0)
    · show D.crashTo _ m t c _ k = _
      rw [D.crashTo_off m t c k (fun x hx e => by rw [hlate, List.mem_singleton] at hx; subst hx; exact hk e.symm), hsafe]
    · obtain ⟨z, hz⟩ := A3.oth
      rcases hone with e | ⟨y, e⟩
      · exact ⟨z, e.trans hz⟩
      · exact ⟨max z y, by rw [e, hz, mixed_mixed]⟩
  generalize hd4 : d3.op (.wr (((h0.behind (packB l).length).seq % 2 : Nat) : Int) (h0.behind (packB l).length).text) = d4 at *
  obtain ⟨i1, i2, i3, i4⟩ := flushed_facts f4
  have A5 : AtHome d4.flushed h0 l X Y := A3.of i1 i2 (by rw [i3, n4]) (fun k hk => by rw [i4, l4', upd_other _ _ hk]) ⟨256, by
    rw [i4, l4', upd_same]
    refine text_ext (by rw [filled_size, mixed_size]) fun j hj => ?_
    rw [filled_size] at hj
    rw [mixed_bt _ _ _ hj, if_pos hj]⟩
  have hfin : d.ops (homeOps (h0.next (packB l).length) l) = d4.flushed := by
    have e : homeOps (h0.next (packB l).length) l = pageOps h0.room l ++ (.fl :: [.wr (((h0.behind (packB l).length).seq % 2 : Nat) : Int) (h0.behind (packB l).length).text, .fl]) := rfl
    have e3 : opE d2 .fl = 0 := free_flushE f2
    have e3' : d2.op .fl = d3 := (flush_op f2).trans hd3
    have e5 : opE d4 .fl = 0 := free_flushE f4
    have e4' : opE d3 (.wr (((h0.behind (packB l).length).seq % 2 : Nat) : Int) (h0.behind (packB l).length).text) = 0 := e4
    rw [e, (ops_app_ok _ e2).1, hd2, (ops_cons_ok _ e3).1, e3', (ops_cons_ok _ e4').1, hd4, (ops_one d4 .fl).1]
    exact flush_op f4
  refine ⟨?_, by rw [hfin]; exact A5, by rw [hfin, i4, l4', upd_same]⟩
  have hcut : AllPre (CrashGood h0 l X Y) d (pageOps h0.room l) := allPre_inv (fun e he => M.phase hf he) _ (phase_page hf M.n) ph0
  have e : homeOps (h0.next (packB l).length) l = pageOps h0.room l ++ (.fl :: [.wr (((h0.behind (packB l).length).seq % 2 : Nat) : Int) (h0.behind (packB l).length).text, .fl]) := rfl
  rw [e]
  refine allPre_app _ _ M.free hpok hcut ?_
  rw [hd2]
  refine ⟨M.phase hf ph2, ?_⟩
  rw [flush_op f2, hd3]
  refine ⟨fun m t c => (A3.crash m t c).good P hs (by show Fits h0 _ d3.n; rw [n3]; exact hf0), ?_⟩
  rw [hd4]
  refine ⟨A4, ?_⟩
  show CrashGood h0 l X Y (d4.op .fl)
  rw [flush_op f4]
  exact fun m t c => (A5.crash m t c).good P hs (by show Fits h0 _ d4.flushed.n; rw [i3, n4, n3]; exact hf0)
end
end Go.Proofs.Ytfcicpcpdklceaa
namespace Go.Proofs.Ytfcicpcpdklceaa
set_option maxRecDepth 100000
open Go.ChangeShapes Go.WideShapes Go.ChangeAt Go.RowKit Go.PlainAid

/-- A settled disk whose heads are known, byte by byte. -/
structure Strong (d : D) (h : Hd) (o : Option Hd) : Prop where
  set : Settled d h o
  cur : d.last (h.seq % 2) = filled h.text
  oth : OldB (d.last ((h.seq + 1) % 2)) ((h.seq + 1) % 2) d.n o
/-- What the journal's writes are about. -/
def BlockK (h0 : Hd) (k : Nat) : Prop := 2 ≤ k ∧ k < 2 + h0.room
theorem phase_block {N : Nat} {S : Nat → ByteArray} {h0 : Hd} (bs : List ByteArray) (hb : bs.length ≤ h0.room) (hs : ∀ s ∈ bs, s.size = 256) (hN : 2 + h0.room ≤ N) : ∀ o ∈ blockOps 0 bs, ∀ d, Phase N S (BlockK h0) d → Phase N S (BlockK h0) (d.op o) := by
  intro o ho d hd
  have hok := block_ok bs hb hs hN o ho
  obtain ⟨j, s, rfl, a, b, c⟩ := mem_blockOps bs 0 o ho
  refine hd.wr hok ⟨by rw [Int.toNat_natCast]; omega, by rw [Int.toNat_natCast]; omega⟩
/-- Settled as before, where just the journal, and the other head, are otherwise. -/
theorem Settled.of {d d' : D} {h0 : Hd} {o o' : Option Hd} (S : Settled d h0 o) (hf : d'.free) (hl : d'.late = []) (hn : d'.n = d.n) (hc : d'.last (h0.seq % 2) = d.last (h0.seq % 2)) (ho : ReadsAs (d'.last ((h0.seq + 1) % 2)) ((h0.seq + 1) % 2) d.n o') (hless : ∀ x, o' = some x → x.seq < h0.seq) : Settled d' h0 o' :=
  ⟨hf, hl, by rw [hn]; exact S.n, by rw [hn]; exact S.hi, S.used, by rw [hc, hn]; exact S.cur, by rw [hn]; exact ho, hless⟩
theorem commit_cut {d : D} {h0 : Hd} {o : Option Hd} {T : Int → Option ByteArray} {ks : List Int} (S : Strong d h0 o) (P : Plain h0) (hT : TxOk h0 T) (hK : Keys T ks) (hb : blocksN ks.length ≤ h0.room) (hs : h0.seq + 3 ≤ 1000000) :
    AllPre (CrashGood h0 (txPages T ks) (fun k => d.last (2 + h0.room + k)) (fun k => pageS d h0 T k)) d (commitOps h0 (txPages T ks)) := by
  have hfit : Fit h0 (txPages T ks) := fun x hx => by
    obtain ⟨k, hk, rfl⟩ := List.mem_map.1 hx
    obtain ⟨s, hs⟩ := Option.isSome_iff_exists.1 ((hK.2 k).1 hk)
    obtain ⟨a, b, c⟩ := hT k s hs
    exact ⟨a, b, by show ((T k).getD _).size ≤ 256; rw [hs]; exact Nat.le_of_eq c⟩
  have hpl : (packB (txPages T ks)).length ≤ h0.room := by rw [packB_length, txPages_length]; exact hb
  have hsn := S.set.n
  have hhi := S.set.hi
  have hfr := S.set.free
  have hks0 : ∀ x ∈ ks, 0 ≤ x := fun x hx => by
    obtain ⟨s, hs⟩ := Option.isSome_iff_exists.1 ((hK.2 x).1 hx)
    exact (hT x s hs).1
  -- what a page is that is not written
  have hsame : ∀ k : Nat, k < h0.pages → (∀ x ∈ txPages T ks, x.at_ ≠ (k : Int)) → pageS d h0 T k = d.last (2 + h0.room + k) := fun k _ hx => by
    have hn : (k : Int) ∉ ks := fun c => hx ⟨k, (T k).getD ByteArray.empty⟩ (List.mem_map.2 ⟨_, c, rfl⟩) rfl
    cases hTk : T k with
    | some s => exact absurd ((hK.2 k).2 (by rw [hTk]; rfl)) hn
    | none =>
      show pageS d h0 T k = _
      unfold pageS
      rw [hTk]
      show d.last (((2 + h0.room : Nat) : Int) + (k : Int)).toNat = _
      rw [show (((2 + h0.room : Nat) : Int) + (k : Int)).toNat = 2 + h0.room + k by omega]
  have hpages : ∀ f : Nat → ByteArray, (∀ k : Nat, k < h0.pages → f (2 + h0.room + k) = d.last (2 + h0.room + k)) → ∀ k : Nat, k < h0.pages → lasts f (pageOps h0.room (txPages T ks)) (2 + h0.room + k) = pageS d h0 T k := fun f hf k hk => by
    rw [pageOps_last h0.room T k ks f hks0]
    by_cases hm : (k : Int) ∈ ks
    · rw [if_pos hm]
      obtain ⟨s, hs⟩ := Option.isSome_iff_exists.1 ((hK.2 k).1 hm)
      unfold pageS
      rw [hs]
      exact filled_full (hT k s hs).2.2
    · rw [if_neg hm, hf k hk]
      refine (hsame k hk fun x hx e => ?_).symm
      obtain ⟨j, hj, rfl⟩ := List.mem_map.1 hx
      exact hm (by rw [← e]; exact hj)
  generalize hX : (fun k => d.last (2 + h0.room + k)) = X at *
  have hXk : ∀ k, X k = d.last (2 + h0.room + k) := fun k => by rw [← hX]
  generalize hY : (fun k : Nat => pageS d h0 T (k : Int)) = Y at *
  have hYk : ∀ k : Nat, Y k = pageS d h0 T k := fun k => by rw [← hY]
  have hbs := packB_size (txPages T ks)
  have hjr : ∀ (f : Nat → ByteArray) i s, (packB (txPages T ks))[i]? = some s → lasts f (blockOps 0 (packB (txPages T ks))) (2 + i) = s := fun f i s hi => by
    have := blockOps_last (packB (txPages T ks)) 0 f i s hi
    rw [show 2 + 0 + i = 2 + i by omega] at this
    rw [this, filled_full (hbs s (List.mem_of_getElem? hi))]
  generalize hl : txPages T ks = l at *
  -- the journal's blocks
  have hbok := block_ok (packB l) hpl hbs (n := d.n) (by omega)
  have hph := phase_block (N := d.n) (S := d.last) (packB l) hpl hbs (by omega)
  have ph0 : Phase d.n d.last (BlockK h0) d := ⟨hfr, rfl, (last_safe S.set.late).symm, fun x hx => by rw [S.set.late] at hx; cases hx⟩
  have ph2 := phase_ops _ hph hbok ph0
  obtain ⟨e2, f2, l2⟩ := free_ops _ hfr hbok
  have hgoodA : ∀ e, Phase d.n d.last (BlockK h0) e → CrashGood h0 l X Y e := fun e hp m t c => by
    obtain ⟨a1, a2, a3, a4⟩ := hp.crash m t c
    refine .inl ⟨o, S.set.of a1 a2 a3 (a4 _ (by unfold BlockK; omega)) (by rw [a4 _ (by unfold BlockK; omega)]; exact S.set.oth) S.set.less, fun k hk => ?_⟩
    rw [a4 _ (by unfold BlockK; omega), hXk]
  have hcut : AllPre (CrashGood h0 l X Y) d (blockOps 0 (packB l)) := allPre_inv hgoodA _ hph ph0
  have off2 : ∀ k, k < 2 ∨ 2 + h0.room ≤ k → (d.ops (blockOps 0 (packB l))).last k = d.last k := fun k hk => by rw [l2]; exact lasts_off k _ _ (block_off _ hpl hk)
  have jr2 : ∀ i s, (packB l)[i]? = some s → (d.ops (blockOps 0 (packB l))).last (2 + i) = s := fun i s hi => by rw [l2]; exact hjr _ i s hi
  refine allPre_app _ _ hfr hbok hcut ⟨hgoodA _ ph2, ?_⟩
  generalize hd2 : d.ops (blockOps 0 (packB l)) = d2 at *
  obtain ⟨g1, g2, g3, g4⟩ := flushed_facts f2
  rw [flush_op f2]
  have n3 : d2.flushed.n = d.n := by rw [g3, ph2.n]
  rw [← g4] at off2 jr2
  generalize hd3 : d2.flushed = d3 at *
  -- the head
  have okw : OkOp d3.n (.wr (((h0.next (packB l).length).seq % 2 : Nat) : Int) (h0.next (packB l).length).text) := ⟨by omega, by omega, by rw [Hd.text_size]; omega⟩
  obtain ⟨e4, f4, l4⟩ := free_op g1 okw
  have q1 : (h0.next (packB l).length).seq % 2 = (h0.seq + 1) % 2 := rfl
  have d4e : d3.op (.wr (((h0.next (packB l).length).seq % 2 : Nat) : Int) (h0.next (packB l).length).text) = { d3 with late := [((h0.seq + 1) % 2, filled (h0.next (packB l).length).text)] } := by
    show d3.write _ _ = _
    rw [free_write g1 okw.1 okw.2.1 okw.2.2, g2, Int.toNat_natCast, q1]
    rfl
  have l4' : (d3.op (.wr (((h0.next (packB l).length).seq % 2 : Nat) : Int) (h0.next (packB l).length).text)).last = upd d3.last ((h0.seq + 1) % 2) (filled (h0.next (packB l).length).text) := by
    rw [l4]
    show upd d3.last (((h0.next (packB l).length).seq % 2 : Nat) : Int).toNat _ = _
    rw [Int.toNat_natCast, q1]
  have n4 := op_n d3 (.wr (((h0.next (packB l).length).seq % 2 : Nat) : Int) (h0.next (packB l).length).text)
  have fnext : Fits (h0.next (packB l).length) ((h0.seq + 1) % 2) d.n := fits_next P.room P.pages P.pages1 hsn (by omega) hpl
  -- a disk that has the head, or part of it
  have hhead : ∀ e : D, e.free → e.late = [] → e.n = d.n → (∀ k, k ≠ (h0.seq + 1) % 2 → e.last k = d3.last k) → ReadsAs (e.last ((h0.seq + 1) % 2)) ((h0.seq + 1) % 2) d.n (some (h0.next (packB l).length)) → Mid e h0 l X := fun e b1 b2 b3 b4 b5 => by
    have ecur : e.last (h0.seq % 2) = filled h0.text := by rw [b4 _ (by omega), off2 _ (by omega), S.cur]
    refine ⟨b1, b2, by rw [b3]; exact hsn, by rw [b3]; exact hhi, hpl, by rw [b3]; exact b5, ⟨0, by rw [ecur, mixed_zero _ _ (filled_size _)]⟩, ⟨some h0, by rw [ecur, b3, ← S.cur]; exact S.set.cur, .inr rfl⟩, fun i s hi => ?_, fun k hk _ => ?_⟩
    · have hi2 := (List.getElem?_eq_some_iff.1 hi).1
      rw [b4 _ (by omega)]; exact jr2 i s hi
    · rw [b4 _ (by omega), off2 _ (by omega), hXk]
  have hold : ∀ (e : D) o', e.free → e.late = [] → e.n = d.n → (∀ k, k ≠ (h0.seq + 1) % 2 → e.last k = d3.last k) → ReadsAs (e.last ((h0.seq + 1) % 2)) ((h0.seq + 1) % 2) d.n o' → (o' = none ∨ o' = o) → Good h0 l X Y e := fun e o' b1 b2 b3 b4 b5 b6 => by
    refine .inl ⟨o', S.set.of b1 b2 b3 (by rw [b4 _ (by omega), off2 _ (by omega)]) b5 (fun x hx => ?_), fun k hk => ?_⟩
    · rcases b6 with rfl | rfl
      · cases hx
      · exact S.set.less x hx
    · rw [b4 _ (by omega), off2 _ (by omega), hXk]
  have hB3 : OldB (d3.last ((h0.seq + 1) % 2)) ((h0.seq + 1) % 2) d.n o := by rw [off2 _ (by omega)]; exact S.oth
  refine ⟨fun m t c => hold _ o ⟨rfl, rfl⟩ rfl n3 (fun k _ => by rw [crash_still g2]) (by rw [crash_still g2]; exact hB3.reads hhi) (.inr rfl), ?_⟩
  have A4 : CrashGood h0 l X Y (d3.op (.wr (((h0.next (packB l).length).seq % 2 : Nat) : Int) (h0.next (packB l).length).text)) := by
    intro m t c
    have hlate : (d3.op (.wr (((h0.next (packB l).length).seq % 2 : Nat) : Int) (h0.next (packB l).length).text)).late = [((h0.seq + 1) % 2, filled (h0.next (packB l).length).text)] := by rw [d4e]
    have hsafe : (d3.op (.wr (((h0.next (packB l).length).seq % 2 : Nat) : Int) (h0.next (packB l).length).text)).safe = d3.last := by rw [d4e, last_safe g2]
    have hone := crash_one hlate m t c
    rw [hsafe] at hone
    have hoff : ∀ k, k ≠ (h0.seq + 1) % 2 → ((d3.op (.wr (((h0.next (packB l).length).seq % 2 : Nat) : Int) (h0.next (packB l).length).text)).crash m t c).last k = d3.last k := fun k hk => by
      show D.crashTo _ m t c _ k = _
      rw [D.crashTo_off m t c k (fun x hx e => by rw [hlate, List.mem_singleton] at hx; subst hx; exact hk e.symm), hsafe]
    have hnc : ((d3.op (.wr (((h0.next (packB l).length).seq % 2 : Nat) : Int) (h0.next (packB l).length).text)).crash m t c).n = d.n := n4.trans n3
    rcases hone with e | ⟨y, e⟩
    · exact hold _ o ⟨rfl, rfl⟩ rfl hnc hoff (by rw [e]; exact hB3.reads hhi) (.inr rfl)
    · obtain ⟨o', r1, r2⟩ := torn_read fnext hhi hB3 y
      rw [← e] at r1
      rcases r2 with r2 | r2 | r2
      · exact hold _ o' ⟨rfl, rfl⟩ rfl hnc hoff r1 (.inl r2)
      · exact hold _ o' ⟨rfl, rfl⟩ rfl hnc hoff r1 (.inr r2)
      · subst r2
        exact .inr (.inl (hhead _ ⟨rfl, rfl⟩ rfl hnc hoff r1))
  generalize hd4 : d3.op (.wr (((h0.next (packB l).length).seq % 2 : Nat) : Int) (h0.next (packB l).length).text) = d4 at *
  obtain ⟨i1, i2, i3, i4⟩ := flushed_facts f4
  have n5 : d4.flushed.n = d.n := by rw [i3, n4, n3]
  have M5 : Mid d4.flushed h0 l X := hhead _ i1 i2 n5 (fun k hk => by rw [i4, l4', upd_other _ _ hk]) (by rw [i4, l4', upd_same]; exact reads_head fnext hhi)
  have hpg5 : ∀ k : Nat, k < h0.pages → d4.flushed.last (2 + h0.room + k) = d.last (2 + h0.room + k) := fun k hk => by rw [i4, l4', upd_other _ _ (by omega), off2 _ (by omega)]
  have hf0 : Fits h0 (h0.seq % 2) d.n := S.set.cur.2.2
  obtain ⟨hc5, _, _⟩ := home_cut (Y := Y) M5 P (by omega) (by rw [n5]; exact hf0) hfit (fun k hk hx => by rw [hYk, hXk]; exact hsame k hk hx) (fun k hk => by rw [hYk]; exact hpages _ hpg5 k hk)
  show AllPre (CrashGood h0 l X Y) d4 (.fl :: homeOps (h0.next (packB l).length) l)
  refine ⟨A4, ?_⟩
  rw [flush_op f4]
  exact hc5
end Go.Proofs.Ytfcicpcpdklceaa
namespace Go.Proofs.Ytfcicpcpdklceaa
set_option maxRecDepth 100000
open Go.ChangeShapes Go.WideShapes Go.ChangeAt Go.RowKit Go.PlainAid

/-- A settled disk of n blocks with those pages. -/
def OkD (n room pg : Nat) (Z : Nat → ByteArray) (d : D) : Prop :=
  ∃ h o, Settled d h o ∧ Plain h ∧ d.n = n ∧ h.room = room ∧ h.pages = pg ∧ h.seq ≤ 1000 ∧ ∀ k : Nat, k < pg → d.last (2 + room + k) = Z k
/-- A disk whose journal is in use: X without it, Y with it. -/
def MidD (n room pg : Nat) (X Y : Nat → ByteArray) (d : D) : Prop :=
  ∃ h0 T ks, Mid d h0 (txPages T ks) X ∧ Plain h0 ∧ d.n = n ∧ h0.room = room ∧ h0.pages = pg ∧ h0.seq ≤ 500 ∧ Fits h0 (h0.seq % 2) n ∧ TxOk h0 T ∧ Keys T ks ∧ ks ≠ [] ∧ ks.length ≤ 50 ∧
    ∀ k : Nat, k < pg → Y k = if (k : Int) ∈ ks then filled ((T k).getD ByteArray.empty) else X k
/-- One of both, or between. -/
def St3 (n room pg : Nat) (X Y : Nat → ByteArray) (d : D) : Prop := OkD n room pg X d ∨ MidD n room pg X Y d ∨ OkD n room pg Y d
section
variable {n room pg : Nat} {X Y Z : Nat → ByteArray} {d : D}
theorem OkD.crash (h : OkD n room pg Z d) (m t c : Int) : OkD n room pg Z (d.crash m t c) := by
  obtain ⟨x, o, S, P, a1, a2, a3, a4, a5⟩ := h
  have e := crash_still S.late m t c
  refine ⟨x, o, ⟨⟨rfl, rfl⟩, rfl, S.n, S.hi, S.used, ?_, ?_, S.less⟩, P, a1, a2, a3, a4, fun k hk => by rw [e]; exact a5 k hk⟩
  · rw [e]; exact S.cur
  · rw [e]; exact S.oth
theorem MidD.crash (h : MidD n room pg X Y d) (m t c : Int) : MidD n room pg X Y (d.crash m t c) := by
  obtain ⟨h0, T, ks, M, rest⟩ := h
  have e := crash_still M.late m t c
  refine ⟨h0, T, ks, ⟨⟨rfl, rfl⟩, rfl, M.n, M.hi, M.room, ?_, ?_, ?_, ?_, ?_⟩, rest⟩
  · rw [e]; exact M.cur
  · rw [e]; exact M.oth
  · rw [e]; exact M.read
  · rw [e]; exact M.jour
  · rw [e]; exact M.pages
theorem St3.crash (h : St3 n room pg X Y d) (m t c : Int) : St3 n room pg X Y (d.crash m t c) := by
  rcases h with h | h | h
  · exact .inl (h.crash m t c)
  · exact .inr (.inl (h.crash m t c))
  · exact .inr (.inr (h.crash m t c))
/-- Out of the words of one transaction. -/
theorem Good.st3 {h0 : Hd} {T : Int → Option ByteArray} {ks : List Int} (G : Good h0 (txPages T ks) X Y d) (P : Plain h0) (hn : d.n = n) (hr : h0.room = room) (hp : h0.pages = pg) (hs : h0.seq ≤ 500) (hf : Fits h0 (h0.seq % 2) n) (hT : TxOk h0 T) (hK : Keys T ks) (hne : ks ≠ []) (hlen : ks.length ≤ 50)
    (hY : ∀ k : Nat, k < pg → Y k = if (k : Int) ∈ ks then filled ((T k).getD ByteArray.empty) else X k) : St3 n room pg X Y d := by
  subst hr hp
  rcases G with ⟨o, S, hx⟩ | M | ⟨o, S, hy⟩
  · exact .inl ⟨h0, o, S, P, hn, rfl, rfl, by omega, hx⟩
  · exact .inr (.inl ⟨h0, T, ks, M, P, hn, rfl, rfl, hs, hf, hT, hK, hne, hlen, hY⟩)
  · exact .inr (.inr ⟨_, o, S, ⟨P.room, P.pages, P.pages1⟩, hn, rfl, rfl, by show h0.seq + 1 + 1 ≤ _; omega, hy⟩)
/-- A commit, whatever the limit. -/
theorem commit_st3 {d1 : D} {h0 : Hd} {o : Option Hd} {T : Int → Option ByteArray} {ks : List Int} (h1 : d1.fr = d) (hdk : d1.dark = false) (S : Strong d h0 o) (P : Plain h0) (hT : TxOk h0 T) (hK : Keys T ks) (hne : ks ≠ []) (hlen : ks.length ≤ 50) (hb : blocksN ks.length ≤ h0.room) (hs : h0.seq ≤ 500) :
    (∀ m t c, St3 d.n h0.room h0.pages (fun k => d.last (2 + h0.room + k)) (fun k => pageS d h0 T k) ((d1.ops (commitOps h0 (txPages T ks))).crash m t c)) ∧
      (opsE d1 (commitOps h0 (txPages T ks)) = 0 → ∀ m t c, OkD d.n h0.room h0.pages (fun k => pageS d h0 T k) ((d1.ops (commitOps h0 (txPages T ks))).crash m t c)) ∧
      (opsE d1 (commitOps h0 (txPages T ks)) = 0 ∨ opsE d1 (commitOps h0 (txPages T ks)) = 11) := by
  have hn1 : d1.n = d.n := by rw [← h1]; rfl
  have hfit : Fit h0 (txPages T ks) := fun x hx => by
    obtain ⟨k, hk, rfl⟩ := List.mem_map.1 hx
    obtain ⟨s, hs⟩ := Option.isSome_iff_exists.1 ((hK.2 k).1 hk)
    obtain ⟨a, b, c⟩ := hT k s hs
    exact ⟨a, b, by show ((T k).getD _).size ≤ 256; rw [hs]; exact Nat.le_of_eq c⟩
  have hpl : (packB (txPages T ks)).length ≤ h0.room := by rw [packB_length, txPages_length]; exact hb
  obtain ⟨c1, c2, c3⟩ := ops_cut (commitOps h0 (txPages T ks)) hdk (by rw [hn1]; exact commit_ok hfit S.set.n hpl) (by rw [h1]; exact commit_cut S P hT hK hb (by omega))
  refine ⟨fun m t c => ?_, fun z m t c => ?_, c3⟩
  · have g := c1 m t c
    rw [fr_crash] at g
    refine g.st3 P ?_ rfl rfl hs S.set.cur.2.2 hT hK hne hlen (fun k hk => ?_)
    · show (d1.ops (commitOps h0 (txPages T ks))).n = d.n
      rw [ops_n, hn1]
    · by_cases hm : (k : Int) ∈ ks
      · rw [if_pos hm]
        obtain ⟨s, hs⟩ := Option.isSome_iff_exists.1 ((hK.2 k).1 hm)
        show pageS d h0 T k = _
        unfold pageS
        rw [hs]
        exact (filled_full (hT k s hs).2.2).symm
      · rw [if_neg hm]
        cases hTk : T k with
        | some s => exact absurd ((hK.2 k).2 (by rw [hTk]; rfl)) hm
        | none =>
          show pageS d h0 T k = _
          unfold pageS
          rw [hTk]
          show d.last (((2 + h0.room : Nat) : Int) + (k : Int)).toNat = _
          rw [show (((2 + h0.room : Nat) : Int) + (k : Int)).toNat = 2 + h0.room + k by omega]
  · obtain ⟨z1, z2⟩ := c2 z
    rw [h1] at z1
    obtain ⟨_, cs, cp⟩ := commit_settled S.set P hT hK hb (by omega)
    have ok : OkD d.n h0.room h0.pages (fun k => pageS d h0 T k) (d1.ops (commitOps h0 (txPages T ks))).fr := by
      rw [z1]
      exact ⟨_, _, cs, ⟨P.room, P.pages, P.pages1⟩, ops_n _ _, rfl, rfl, by show h0.seq + 1 + 1 ≤ _; omega, cp⟩
    have := ok.crash m t c
    rwa [fr_crash] at this
/-- Pages brought home, whatever the limit. -/
theorem home_st3 {d1 : D} {h0 : Hd} {T : Int → Option ByteArray} {ks : List Int} (h1 : d1.fr = d) (hdk : d1.dark = false) (M : Mid d h0 (txPages T ks) X) (P : Plain h0) (hn : d.n = n) (hr : h0.room = room) (hp : h0.pages = pg) (hs : h0.seq ≤ 500) (hf : Fits h0 (h0.seq % 2) n) (hT : TxOk h0 T) (hK : Keys T ks) (hne : ks ≠ []) (hlen : ks.length ≤ 50)
    (hY : ∀ k : Nat, k < pg → Y k = if (k : Int) ∈ ks then filled ((T k).getD ByteArray.empty) else X k) :
    (∀ m t c, St3 n room pg X Y ((d1.ops (homeOps (h0.next (packB (txPages T ks)).length) (txPages T ks))).crash m t c)) ∧
      (opsE d1 (homeOps (h0.next (packB (txPages T ks)).length) (txPages T ks)) = 0 → OkD n room pg Y (d1.ops (homeOps (h0.next (packB (txPages T ks)).length) (txPages T ks))).fr ∧ (d1.ops (homeOps (h0.next (packB (txPages T ks)).length) (txPages T ks))).dark = false) := by
  subst hr hp
  have hn1 : d1.n = d.n := by rw [← h1]; rfl
  have hfit : Fit h0 (txPages T ks) := fun x hx => by
    obtain ⟨k, hk, rfl⟩ := List.mem_map.1 hx
    obtain ⟨s, hs⟩ := Option.isSome_iff_exists.1 ((hK.2 k).1 hk)
    obtain ⟨a, b, c⟩ := hT k s hs
    exact ⟨a, b, by show ((T k).getD _).size ≤ 256; rw [hs]; exact Nat.le_of_eq c⟩
  have hks0 : ∀ x ∈ ks, 0 ≤ x := fun x hx => by
    obtain ⟨s, hs⟩ := Option.isSome_iff_exists.1 ((hK.2 x).1 hx)
    exact (hT x s hs).1
  obtain ⟨k1, k2, k3⟩ := home_cut (Y := Y) M P (by omega) (by rw [hn]; exact hf) hfit (fun k hk hx => by
      rw [hY k hk, if_neg]
      intro c
      exact hx ⟨k, (T k).getD ByteArray.empty⟩ (List.mem_map.2 ⟨_, c, rfl⟩) rfl) (fun k hk => by
      rw [pageOps_last h0.room T k ks _ hks0, hY k hk]
      by_cases hm : (k : Int) ∈ ks
      · rw [if_pos hm, if_pos hm]
      · rw [if_neg hm, if_neg hm]
        exact M.pages k hk (fun x hx e => by
          obtain ⟨j, hj, rfl⟩ := List.mem_map.1 hx
          exact hm (by rw [← e]; exact hj)))
  obtain ⟨c1, c2, c3⟩ := ops_cut (homeOps (h0.next (packB (txPages T ks)).length) (txPages T ks)) hdk (by rw [hn1]; exact home_ok (h := h0.next (packB (txPages T ks)).length) hfit M.n) (by rw [h1]; exact k1)
  refine ⟨fun m t c => ?_, fun z => ?_⟩
  · have g := c1 m t c
    rw [fr_crash] at g
    exact g.st3 P (by show (d1.ops _).n = n; rw [ops_n, hn1, hn]) rfl rfl hs hf hT hK hne hlen hY
  · obtain ⟨z1, z2⟩ := c2 z
    rw [h1] at z1
    refine ⟨?_, z2⟩
    rw [z1]
    have q0 : (h0.behind (packB (txPages T ks)).length).seq % 2 = h0.seq % 2 := by show (h0.seq + 1 + 1) % 2 = _; omega
    have hnn : (d.ops (homeOps (h0.next (packB (txPages T ks)).length) (txPages T ks))).n = d.n := ops_n _ _
    refine ⟨h0.behind (packB (txPages T ks)).length, some (h0.next (packB (txPages T ks)).length), ⟨k2.free, k2.late, k2.n, k2.hi, rfl, ?_, ?_, fun x hx => ?_⟩, ⟨P.room, P.pages, P.pages1⟩, by rw [hnn, hn], rfl, rfl, by show h0.seq + 1 + 1 ≤ _; omega, k2.pages⟩
    · rw [q0, k3, hnn]
      exact reads_head (fits_behind P M.n (by omega)) M.hi
    · have e : ((h0.behind (packB (txPages T ks)).length).seq + 1) % 2 = (h0.seq + 1) % 2 := by show (h0.seq + 1 + 1 + 1) % 2 = _; omega
      rw [e]; exact k2.cur
    · obtain rfl : h0.next (packB (txPages T ks)).length = x := by simpa using hx
      show h0.seq + 1 < h0.seq + 1 + 1
      omega
end
end Go.Proofs.Ytfcicpcpdklceaa
