import Derived.KernelRfl
import Derived.Test.YtlgodpadcilcaaaDoorRows
import Derived.WalkKit
import Derived.ProofKit
import Derived.OpenShut
import Derived.JoinedCond
import Derived.Lib.Bytealg
import Derived.Laws.Externs
import Derived.BigQuiet
import Derived.Lib.BufferWrite
import Derived.Lib.UnsafeStr
import Derived.Laws.MakeOwn
import Derived.Deep.AppendLies
import Derived.Laws.ResultCell
import Derived.Deep.MidRow
namespace Go.Proofs.YtlgodpadcilcaaaDoor

theorem orTo {a b c : Prop} (h : a ∨ b) (f : b → c) : a ∨ c := h.elim Or.inl (fun x => Or.inr (f x))

/-- texts as lists of bytes -/
def splitL (c : UInt8) : List UInt8 → List (List UInt8)
  | [] => [[]]
  | b :: r => if b = c then [] :: splitL c r else
    match splitL c r with
    | [] => [[b]]
    | h :: t => (b :: h) :: t

theorem splitL_ne (c : UInt8) (l : List UInt8) : splitL c l ≠ [] := by
  cases l with
  | nil => simp [splitL]
  | cons b r => unfold splitL; split; simp; split <;> simp
theorem splitL_pre (c : UInt8) (p r : List UInt8) (h : ∀ x ∈ p, x ≠ c) : splitL c (p ++ c :: r) = p :: splitL c r := by
  induction p with
  | nil => simp [splitL]
  | cons b q ih =>
    rw [List.cons_append, splitL, if_neg (h b (by simp)), ih (fun x hx => h x (by simp [hx]))]
theorem splitL_all (c : UInt8) (p : List UInt8) (h : ∀ x ∈ p, x ≠ c) : splitL c p = [p] := by
  induction p with
  | nil => simp [splitL]
  | cons b q ih =>
    rw [splitL, if_neg (h b (by simp)), ih (fun x hx => h x (by simp [hx]))]

def isLow (b : UInt8) : Bool := decide (97 ≤ b.toNat) && decide (b.toNat ≤ 122)
def selfL : List UInt8 := [115, 101, 108, 102]
def nameL (s : List UInt8) : Bool := decide (1 ≤ s.length) && decide (s.length ≤ 8) && s.all isLow && !(s == selfL)

/-- a single term -/
abbrev Sing := Option (List UInt8 × Option (List UInt8))
abbrev Sing.self : Sing := none
abbrev Sing.name (n : List UInt8) : Sing := some (n, none)
abbrev Sing.via (v t : List UInt8) : Sing := some (v, some t)
theorem Sing.kind {motive : Sing → Prop} (s : Sing) (self : motive .self) (name : ∀ n, motive (.name n)) (via : ∀ v t, motive (.via v t)) : motive s :=
  match s with
  | none => self
  | some (n, none) => name n
  | some (v, some t) => via v t
/-- an expression: 3 or, 4 and, 5 less -/
structure Exp where
  val : Sing ⊕ (Nat × List Exp)
abbrev Exp.leaf (s : Sing) : Exp := ⟨.inl s⟩
abbrev Exp.join (k : Nat) (es : List Exp) : Exp := ⟨.inr (k, es)⟩
theorem Exp.kind {motive : Exp → Prop} (e : Exp) (leaf : ∀ s, motive (.leaf s)) (join : ∀ k es, motive (.join k es)) : motive e :=
  match e with
  | ⟨.inl s⟩ => leaf s
  | ⟨.inr (k, es)⟩ => join k es

def dotL : List (List UInt8) → Option Sing
  | [a] => if nameL a then some (.name a) else none
  | [a, b] => if nameL a && nameL b then some (.via a b) else none
  | _ => none
def singL (w : List UInt8) : Option Sing := if w = selfL then some .self else dotL (splitL 46 w)
theorem dotL_one (a : List UInt8) : dotL [a] = if nameL a then some (.name a) else none := rfl
theorem dotL_two (a b : List UInt8) : dotL [a, b] = if nameL a && nameL b then some (.via a b) else none := rfl
theorem dotL_more (a b c : List UInt8) (r : List (List UInt8)) : dotL (a :: b :: c :: r) = none := rfl

def markL (m : List UInt8) : Option Nat :=
  if m = [124] then some 3 else if m = [38] then some 4 else if m = [45] then some 5 else none

/-- the terms behind a mark, each by T; n: no more of them than that -/
def manyOf (T : List (List UInt8) → Option (Exp × List (List UInt8))) (m : List UInt8) : Nat → List (List UInt8) → Option (List Exp × List (List UInt8))
  | 0, r => some ([], r)
  | _ + 1, [] => some ([], [])
  | n + 1, w :: r => if w = m then
      match T r with
      | none => none
      | some (e, r') =>
        match manyOf T m n r' with
        | none => none
        | some (es, r'') => some (e :: es, r'')
    else some ([], w :: r)

def exprOf (T : List (List UInt8) → Option (Exp × List (List UInt8))) (l : List (List UInt8)) : Option (Exp × List (List UInt8)) :=
  match T l with
  | none => none
  | some (e, []) => some (e, [])
  | some (e, m :: r) =>
    match markL m with
    | none => some (e, m :: r)
    | some k =>
      match manyOf T m (r.length + 1) (m :: r) with
      | none => none
      | some (es, r') => if k = 5 ∧ es.length ≠ 1 then none else some (.join k (e :: es), r')

/-- a term; f: no more brackets within one another than that -/
def termF : Nat → List (List UInt8) → Option (Exp × List (List UInt8))
  | 0, _ => none
  | _ + 1, [] => none
  | f + 1, w :: r => if w = [40] then
      match exprOf (termF f) r with
      | some (e, w' :: r') => if w' = [41] then some (e, r') else none
      | _ => none
    else
      match singL w with
      | none => none
      | some s => some (.leaf s, r)

/-- T leaves fewer words -/
def Short (T : List (List UInt8) → Option (Exp × List (List UInt8))) : Prop := ∀ l e r, T l = some (e, r) → r.length < l.length

theorem manyOf_short {T : List (List UInt8) → Option (Exp × List (List UInt8))} (hT : Short T) (m : List UInt8) : ∀ n l es r, manyOf T m n l = some (es, r) → r.length ≤ l.length
  | 0, l, es, r, h => by simp [manyOf] at h; simp [h.2]
  | n + 1, [], es, r, h => by simp [manyOf] at h; simp [h.2]
  | n + 1, w :: l, es, r, h => by
    unfold manyOf at h
    split at h
    · split at h
      · cases h
      · rename_i e r' he
        split at h
        · cases h
        · rename_i es' r'' hm
          cases h
          have h1 := hT _ _ _ he
          have h2 := manyOf_short hT m n _ _ _ hm
          simp; omega
    · cases h; simp
theorem exprOf_short {T : List (List UInt8) → Option (Exp × List (List UInt8))} (hT : Short T) : Short (exprOf T) := by
  intro l e r h
  unfold exprOf at h
  split at h
  · cases h
  · rename_i e' he
    cases h
    exact hT _ _ _ he
  · rename_i e' m r' he
    have h1 := hT _ _ _ he
    split at h
    · cases h; exact h1
    · split at h
      · cases h
      · rename_i es r'' hm
        have h2 := manyOf_short hT m _ _ _ _ hm
        split at h
        · cases h
        · cases h; omega
theorem termF_short : ∀ f, Short (termF f)
  | 0 => fun l e r h => by simp [termF] at h
  | f + 1 => fun l e r h => by
    cases l with
    | nil => simp [termF] at h
    | cons w l =>
      unfold termF at h
      split at h
      · split at h
        · rename_i e' w' r' he
          have h1 := exprOf_short (termF_short f) _ _ _ he
          split at h
          · cases h; simp at h1 ⊢; omega
          · cases h
        · cases h
      · split at h
        · cases h
        · cases h; simp
/-- more rounds than words change nothing -/
theorem manyOf_more {T : List (List UInt8) → Option (Exp × List (List UInt8))} (hT : Short T) (m : List UInt8) : ∀ n k l, l.length ≤ n → l.length ≤ k → manyOf T m n l = manyOf T m k l
  | 0, k, l, hn, _ => by
    have e : l = [] := List.eq_nil_of_length_eq_zero (by omega)
    subst e
    cases k <;> simp [manyOf]
  | n + 1, 0, l, _, hk => by
    have e : l = [] := List.eq_nil_of_length_eq_zero (by omega)
    subst e
    simp [manyOf]
  | n + 1, k + 1, [], _, _ => by simp [manyOf]
  | n + 1, k + 1, w :: l, hn, hk => by
    unfold manyOf
    split
    · cases he : T l with
      | none => rfl
      | some p =>
        obtain ⟨e, r'⟩ := p
        have h1 := hT _ _ _ he
        simp only []
        simp at hn hk
        rw [manyOf_more hT m n k r' (by omega) (by omega)]
    · rfl
theorem termF_more : ∀ f g l, l.length ≤ f → l.length ≤ g → termF f l = termF g l
  | f, g, [], _, _ => by cases f <;> cases g <;> simp [termF]
  | 0, _, w :: l, hf, _ => by simp at hf
  | _, 0, w :: l, _, hg => by simp at hg
  | f + 1, g + 1, w :: l, hf, hg => by
    have ih : ∀ l', l'.length ≤ l.length → termF f l' = termF g l' := fun l' h => termF_more f g l' (by simp at hf; omega) (by simp at hg; omega)
    have hm : ∀ m n l', l'.length ≤ l.length → manyOf (termF f) m n l' = manyOf (termF g) m n l' := by
      intro m n
      induction n with
      | zero => intro l' _; simp [manyOf]
      | succ n ihn =>
        intro l' hl'
        cases l' with
        | nil => simp [manyOf]
        | cons w' l' =>
          unfold manyOf
          simp at hl'
          rw [ih l' (by omega)]
          split
          · cases he : termF g l' with
            | none => rfl
            | some p =>
              obtain ⟨e, r'⟩ := p
              have h1 := termF_short g _ _ _ he
              simp only []
              rw [ihn r' (by omega)]
          · rfl
    have he : exprOf (termF f) l = exprOf (termF g) l := by
      unfold exprOf
      rw [ih l (Nat.le_refl _)]
      cases h : termF g l with
      | none => rfl
      | some p =>
        obtain ⟨e, r⟩ := p
        have h1 := termF_short g _ _ _ h
        cases r with
        | nil => rfl
        | cons m r =>
          simp only []
          rw [hm m _ _ (by simpa using Nat.le_of_lt h1)]
    unfold termF
    rw [he]

def termL (l : List (List UInt8)) : Option (Exp × List (List UInt8)) := termF l.length l
def exprL (l : List (List UInt8)) : Option (Exp × List (List UInt8)) := exprOf termL l

theorem termL_short : Short termL := fun _ _ _ h => termF_short _ _ _ _ h
theorem termF_eq (f : Nat) (l : List (List UInt8)) (h : l.length ≤ f) : termF f l = termL l := termF_more _ _ _ h (Nat.le_refl _)
theorem manyF_eq (f : Nat) (m : List UInt8) : ∀ n l, l.length ≤ f → manyOf (termF f) m n l = manyOf termL m n l := by
  intro n
  induction n with
  | zero => intro l _; simp [manyOf]
  | succ n ihn =>
    intro l hl
    cases l with
    | nil => simp [manyOf]
    | cons w l =>
      unfold manyOf
      simp at hl
      rw [termF_eq f l (by omega)]
      split
      · cases he : termL l with
        | none => rfl
        | some p =>
          obtain ⟨e, r'⟩ := p
          have h1 := termL_short _ _ _ he
          simp only []
          rw [ihn r' (by omega)]
      · rfl
theorem exprF_eq (f : Nat) (l : List (List UInt8)) (h : l.length ≤ f) : exprOf (termF f) l = exprL l := by
  unfold exprL exprOf
  rw [termF_eq f l h]
  cases he : termL l with
  | none => rfl
  | some p =>
    obtain ⟨e, r⟩ := p
    have h1 := termL_short _ _ _ he
    cases r with
    | nil => rfl
    | cons m r =>
      simp only []
      rw [manyF_eq f m _ _ (by omega)]
/-- T's rest is of the words it was given -/
def Sub (T : List (List UInt8) → Option (Exp × List (List UInt8))) : Prop := ∀ l e r, T l = some (e, r) → ∀ z ∈ r, z ∈ l
theorem manyOf_sub {T : List (List UInt8) → Option (Exp × List (List UInt8))} (hT : Sub T) (m : List UInt8) : ∀ n l es r, manyOf T m n l = some (es, r) → ∀ z ∈ r, z ∈ l
  | 0, l, es, r, h => by simp [manyOf] at h; rw [h.2]; exact fun _ h => h
  | n + 1, [], es, r, h => by simp [manyOf] at h; rw [h.2]; exact fun _ h => h
  | n + 1, w :: l, es, r, h => by
    unfold manyOf at h
    split at h
    · split at h
      · cases h
      · rename_i e r' he
        split at h
        · cases h
        · rename_i es' r'' hm
          cases h
          intro z hz
          exact List.mem_cons_of_mem _ (hT _ _ _ he z (manyOf_sub hT m n _ _ _ hm z hz))
    · cases h; exact fun _ h => h
theorem exprOf_sub {T : List (List UInt8) → Option (Exp × List (List UInt8))} (hT : Sub T) : Sub (exprOf T) := by
  intro l e r h
  unfold exprOf at h
  split at h
  · cases h
  · rename_i e' he
    cases h
    exact hT _ _ _ he
  · rename_i e' m r' he
    have h1 := hT _ _ _ he
    split at h
    · cases h; exact h1
    · split at h
      · cases h
      · rename_i es r'' hm
        have h2 := manyOf_sub hT m _ _ _ _ hm
        split at h
        · cases h
        · cases h; exact fun z hz => h1 z (h2 z hz)
theorem termF_sub : ∀ f, Sub (termF f)
  | 0 => fun l e r h => by simp [termF] at h
  | f + 1 => fun l e r h => by
    cases l with
    | nil => simp [termF] at h
    | cons w l =>
      unfold termF at h
      split at h
      · split at h
        · rename_i e' w' r' he
          have h1 := exprOf_sub (termF_sub f) _ _ _ he
          split at h
          · cases h; exact fun z hz => List.mem_cons_of_mem _ (h1 z (List.mem_cons_of_mem _ hz))
          · cases h
        · cases h
      · split at h
        · cases h
        · cases h; exact fun z hz => List.mem_cons_of_mem _ hz
theorem termL_sub : Sub termL := fun _ _ _ h => termF_sub _ _ _ _ h
theorem termL_nil : termL [] = none := rfl
theorem termL_cons (w : List UInt8) (r : List (List UInt8)) : termL (w :: r) = if w = [40] then
      match exprL r with
      | some (e, w' :: r') => if w' = [41] then some (e, r') else none
      | _ => none
    else
      match singL w with
      | none => none
      | some s => some (.leaf s, r) := by
  show termF (r.length + 1) (w :: r) = _
  unfold termF
  rw [exprF_eq _ _ (Nat.le_refl _)]

/-- the terms behind a mark -/
def manyL (m : List UInt8) (l : List (List UInt8)) : Option (List Exp × List (List UInt8)) := manyOf termL m l.length l
theorem manyL_nil (m : List UInt8) : manyL m [] = some ([], []) := rfl
theorem manyL_other (m w : List UInt8) (l : List (List UInt8)) (h : w ≠ m) : manyL m (w :: l) = some ([], w :: l) := by
  unfold manyL
  rw [List.length_cons, manyOf, if_neg h]
theorem manyL_none (m : List UInt8) (l : List (List UInt8)) (h : termL l = none) : manyL m (m :: l) = none := by
  unfold manyL
  rw [List.length_cons, manyOf, if_pos rfl, h]
theorem manyL_some (m : List UInt8) (l : List (List UInt8)) {e : Exp} {r : List (List UInt8)} (h : termL l = some (e, r)) :
    manyL m (m :: l) = match manyL m r with | none => none | some (es, r') => some (e :: es, r') := by
  unfold manyL
  have h1 := termL_short _ _ _ h
  rw [List.length_cons, manyOf, if_pos rfl, h]
  simp only []
  rw [manyOf_more termL_short m _ r.length r (by omega) (Nat.le_refl _)]
theorem exprL_eq (l : List (List UInt8)) : exprL l = match termL l with
    | none => none
    | some (e, []) => some (e, [])
    | some (e, m :: r) =>
      match markL m with
      | none => some (e, m :: r)
      | some k =>
        match manyL m (m :: r) with
        | none => none
        | some (es, r') => if k = 5 ∧ es.length ≠ 1 then none else some (.join k (e :: es), r') := rfl
theorem exprL_short : Short exprL := exprOf_short termL_short
end Go.Proofs.YtlgodpadcilcaaaDoor
namespace Go.Proofs.YtlgodpadcilcaaaDoor

/-- from a to b by steps of M, by places below k between -/
def WayN (M : Nat → Nat → Prop) (k : Nat) : Nat → Nat → Nat → Prop
  | 0, a, b => M a b
  | n + 1, a, b => ∃ c, M a c ∧ c < k ∧ WayN M k n c b
structure Way (M : Nat → Nat → Prop) (k a b : Nat) : Prop where
  way : ∃ n, WayN M k n a b
theorem Way.one {M : Nat → Nat → Prop} {k a b : Nat} (h : M a b) : Way M k a b := ⟨0, h⟩
theorem Way.step {M : Nat → Nat → Prop} {k a c b : Nat} (h : M a c) (hc : c < k) (hw : Way M k c b) : Way M k a b := by
  obtain ⟨n, hn⟩ := hw
  exact ⟨n + 1, c, h, hc, hn⟩
theorem Way.ind {M : Nat → Nat → Prop} {k b : Nat} {motive : (a : Nat) → Way M k a b → Prop} (one : ∀ {a} (h : M a b), motive a (.one h)) (step : ∀ {a c} (h : M a c) (hc : c < k) (hw : Way M k c b), motive c hw → motive a (.step h hc hw)) {a : Nat} (h : Way M k a b) : motive a h := by
  obtain ⟨n, hn⟩ := h
  induction n generalizing a with
  | zero => exact one hn
  | succ n ih =>
    obtain ⟨c, h1, h2, h3⟩ := hn
    exact step h1 h2 ⟨n, h3⟩ (ih h3)

theorem Way.cut {M : Nat → Nat → Prop} {k a b : Nat} (h : Way M (k + 1) a b) : Way M k a b ∨ (Way M k a k ∧ Way M k k b) := by
  induction h using Way.ind with
  | one h => exact .inl (.one h)
  | @step a c hm hc _ ih =>
    by_cases hck : c = k
    · subst hck
      rcases ih with h | ⟨_, h2⟩
      · exact .inr ⟨.one hm, h⟩
      · exact .inr ⟨.one hm, h2⟩
    · have hlt : c < k := by omega
      rcases ih with h | ⟨h1, h2⟩
      · exact .inl (.step hm hlt h)
      · exact .inr ⟨.step hm hlt h1, h2⟩
theorem Way.zero {M : Nat → Nat → Prop} {a b : Nat} (h : Way M 0 a b) : M a b := by
  induction h using Way.ind with
  | one h => exact h
  | step _ hc _ _ => omega
theorem Way.sound {M : Nat → Nat → Prop} {k a b : Nat} (h : Way M k a b) : Relation.TransGen M a b := by
  induction h using Way.ind with
  | one h => exact .single h
  | step hm _ _ ih => exact Relation.TransGen.trans (.single hm) ih
theorem Way.snoc {M : Nat → Nat → Prop} {k a b c : Nat} (h : Way M k a b) (hb : b < k) (hm : M b c) : Way M k a c := by
  induction h using Way.ind with
  | one h => exact .step h hb (.one hm)
  | step h1 h2 _ ih => exact .step h1 h2 ih
theorem Way.complete {M : Nat → Nat → Prop} {n a b : Nat} (hM : ∀ x y, M x y → x < n) (h : Relation.TransGen M a b) : Way M n a b := by
  induction h with
  | single h => exact .one h
  | tail _ hm ih => exact ih.snoc (hM _ _ hm) hm

/-- what the three loops keep: X at pass k -/
structure Fw (M : Nat → Nat → Prop) (n k : Nat) (X : Nat → Nat → Bool) : Prop where
  sound : ∀ a b, a < n → b < n → X a b = true → Relation.TransGen M a b
  full : ∀ a b, a < n → b < n → Way M k a b → X a b = true
/-- .. within pass k, when all pairs ahead of (a, b) have been gone over -/
structure FwAt (M : Nat → Nat → Prop) (n k i j : Nat) (X : Nat → Nat → Bool) : Prop where
  sound : ∀ a b, a < n → b < n → X a b = true → Relation.TransGen M a b
  full : ∀ a b, a < n → b < n → Way M k a b → X a b = true
  next : ∀ a b, a < n → b < n → (a < i ∨ (a = i ∧ b < j)) → Way M (k + 1) a b → X a b = true
theorem Fw.begin {M : Nat → Nat → Prop} {n k : Nat} {X : Nat → Nat → Bool} (h : Fw M n k X) : FwAt M n k 0 0 X :=
  ⟨h.sound, h.full, fun a b _ _ hi _ => by omega⟩
theorem FwAt.row {M : Nat → Nat → Prop} {n k i : Nat} {X : Nat → Nat → Bool} (h : FwAt M n k i n X) : FwAt M n k (i + 1) 0 X :=
  ⟨h.sound, h.full, fun a b ha hb hi hw => h.next a b ha hb (by omega) hw⟩
theorem FwAt.done {M : Nat → Nat → Prop} {n k : Nat} {X : Nat → Nat → Bool} (h : FwAt M n k n 0 X) : Fw M n (k + 1) X :=
  ⟨h.sound, fun a b ha hb hw => h.next a b ha hb (by omega) hw⟩
theorem FwAt.step {M : Nat → Nat → Prop} {n k i j : Nat} {X Y : Nat → Nat → Bool} (hk : k < n) (hi : i < n) (hj : j < n) (h : FwAt M n k i j X)
    (hY : ∀ a b, a < n → b < n → Y a b = if a = i ∧ b = j then (X i j || (X i k && X k j)) else X a b) : FwAt M n k i (j + 1) Y := by
  have mono : ∀ a b, a < n → b < n → X a b = true → Y a b = true := fun a b ha hb hx => by
    rw [hY a b ha hb]
    split
    · rename_i e; rw [e.1, e.2] at hx; simp [hx]
    · exact hx
  refine ⟨fun a b ha hb hy => ?_, fun a b ha hb hw => mono a b ha hb (h.full a b ha hb hw), fun a b ha hb hlt hw => ?_⟩
  · rw [hY a b ha hb] at hy
    split at hy
    · rename_i e
      rw [e.1, e.2]
      simp only [Bool.or_eq_true, Bool.and_eq_true] at hy
      rcases hy with hy | ⟨h1, h2⟩
      · exact h.sound i j hi hj hy
      · exact (h.sound i k hi hk h1).trans (h.sound k j hk hj h2)
    · exact h.sound a b ha hb hy
  · by_cases e : a = i ∧ b = j
    · obtain ⟨rfl, rfl⟩ := e
      rw [hY a b ha hb, if_pos ⟨rfl, rfl⟩]
      rcases hw.cut with h1 | ⟨h1, h2⟩
      · rw [h.full a b ha hb h1]; rfl
      · rw [h.full a k ha hk h1, h.full k b hk hb h2]; simp
    · exact mono a b ha hb (h.next a b ha hb (by omega) hw)

/-- the single terms of an expression, each with: does it stand behind a less? -/
def Exp.flat (ag : Bool) : Exp → List (Sing × Bool)
  | ⟨.inl s⟩ => [(s, ag)]
  | ⟨.inr (k, es)⟩ => flatL ag k 0 es
where flatL (ag : Bool) (k i : Nat) : List Exp → List (Sing × Bool)
  | [] => []
  | e :: r => Exp.flat (ag || (k == 5 && decide (0 < i))) e ++ flatL ag k (i + 1) r

/-- a relation, as a line says it -/
structure Rl where
  ty : List UInt8
  nm : List UInt8
  set : Bool
  ex : Exp
  line : Nat

def leadsB (t : Sing) (x y : Rl) : Bool :=
  match t with
  | none => y.set
  | some (n, none) => y.ty == x.ty && y.nm == n
  | some (_, some th) => y.nm == th
def hangB (x y : Rl) : Bool := (x.ex.flat false).any fun p => leadsB p.1 x y
def agB (x y : Rl) : Bool := (x.ex.flat false).any fun p => p.2 && leadsB p.1 x y
theorem agB_hangB {x y : Rl} (h : agB x y = true) : hangB x y = true := by
  unfold agB at h
  unfold hangB
  rw [List.any_eq_true] at h ⊢
  obtain ⟨p, hp, h⟩ := h
  simp only [Bool.and_eq_true] at h
  exact ⟨p, hp, h.2⟩

def InR (R : List Rl) (u v : Rl) : Prop := u ∈ R ∧ v ∈ R ∧ hangB u v = true
def ringP (R : List Rl) : Prop := ∃ x ∈ R, ∃ y ∈ R, agB x y = true ∧ Relation.TransGen (InR R) y x
theorem ringP_congr {R S : List Rl} (h : ∀ x, x ∈ R ↔ x ∈ S) : ringP R ↔ ringP S := by
  have e : InR R = InR S := by
    funext u v
    unfold InR
    rw [h u, h v]
  unfold ringP
  rw [e]
  constructor
  · rintro ⟨x, hx, y, hy, h1⟩; exact ⟨x, (h x).1 hx, y, (h y).1 hy, h1⟩
  · rintro ⟨x, hx, y, hy, h1⟩; exact ⟨x, (h x).2 hx, y, (h y).2 hy, h1⟩

/-- hanging by places -/
def InM (R : List Rl) (a b : Nat) : Prop := ∃ x y, R[a]? = some x ∧ R[b]? = some y ∧ hangB x y = true
theorem InM.lt {R : List Rl} {a b : Nat} (h : InM R a b) : a < R.length ∧ b < R.length := by
  obtain ⟨x, y, hx, hy, _⟩ := h
  exact ⟨(List.getElem?_eq_some_iff.1 hx).1, (List.getElem?_eq_some_iff.1 hy).1⟩
theorem tg_el {R : List Rl} {a b : Nat} (h : Relation.TransGen (InM R) a b) : ∀ x y, R[a]? = some x → R[b]? = some y → Relation.TransGen (InR R) x y := by
  induction h with
  | single h =>
    intro x y hx hy
    obtain ⟨x', y', hx', hy', hh⟩ := h
    rw [hx] at hx'; rw [hy] at hy'
    cases hx'; cases hy'
    exact .single ⟨List.mem_of_getElem? hx, List.mem_of_getElem? hy, hh⟩
  | tail _ hm ih =>
    intro x y hx hy
    obtain ⟨z, y', hz, hy', hh⟩ := hm
    rw [hy] at hy'
    cases hy'
    exact .tail (ih x z hx hz) ⟨List.mem_of_getElem? hz, List.mem_of_getElem? hy, hh⟩
theorem tg_ix {R : List Rl} {x y : Rl} (h : Relation.TransGen (InR R) x y) : ∀ a b, R[a]? = some x → R[b]? = some y → Relation.TransGen (InM R) a b := by
  induction h with
  | single h => intro a b ha hb; exact .single ⟨_, _, ha, hb, h.2.2⟩
  | tail _ hm ih =>
    intro a b ha hb
    obtain ⟨c, hc⟩ := List.getElem?_of_mem hm.1
    exact .tail (ih a c ha hc) ⟨_, _, hc, hb, hm.2.2⟩
/-- the answer by a closed table -/
theorem ring_table {R : List Rl} {n : Nat} (hn : R.length ≤ n) {X : Nat → Nat → Bool} (h : Fw (InM R) n n X) :
    (∃ (a b : Nat) (x y : Rl), R[a]? = some x ∧ R[b]? = some y ∧ agB x y = true ∧ X b a = true) ↔ ringP R := by
  constructor
  · rintro ⟨a, b, x, y, hx, hy, hag, hX⟩
    have ha := (List.getElem?_eq_some_iff.1 hx).1
    have hb := (List.getElem?_eq_some_iff.1 hy).1
    exact ⟨x, List.mem_of_getElem? hx, y, List.mem_of_getElem? hy, hag, tg_el (h.sound b a (by omega) (by omega) hX) y x hy hx⟩
  · rintro ⟨x, hx, y, hy, hag, ht⟩
    obtain ⟨a, ha⟩ := List.getElem?_of_mem hx
    obtain ⟨b, hb⟩ := List.getElem?_of_mem hy
    have hla := (List.getElem?_eq_some_iff.1 ha).1
    have hlb := (List.getElem?_eq_some_iff.1 hb).1
    exact ⟨a, b, x, y, ha, hb, hag, h.full b a (by omega) (by omega) (Way.complete (fun u v huv => by have := huv.lt; omega) (tg_ix ht b a hb ha))⟩

/-- the closed table, worked out -/
def clo (M : Nat → Nat → Bool) : Nat → Nat → Nat → Bool
  | 0, a, b => M a b
  | k + 1, a, b => clo M k a b || (clo M k a k && clo M k k b)
theorem clo_sound (M : Nat → Nat → Bool) : ∀ k a b, clo M k a b = true → Relation.TransGen (fun a b => M a b = true) a b
  | 0, a, b, h => .single h
  | k + 1, a, b, h => by
    simp only [clo, Bool.or_eq_true, Bool.and_eq_true] at h
    rcases h with h | ⟨h1, h2⟩
    · exact clo_sound M k a b h
    · exact (clo_sound M k a k h1).trans (clo_sound M k k b h2)
theorem clo_full (M : Nat → Nat → Bool) : ∀ k a b, Way (fun a b => M a b = true) k a b → clo M k a b = true
  | 0, a, b, h => h.zero
  | k + 1, a, b, h => by
    simp only [clo, Bool.or_eq_true, Bool.and_eq_true]
    rcases h.cut with h | ⟨h1, h2⟩
    · exact .inl (clo_full M k a b h)
    · exact .inr ⟨clo_full M k a k h1, clo_full M k k b h2⟩
/-- of two places: do the relations there stand so to one another? -/
def atB (f : Rl → Rl → Bool) (R : List Rl) (a b : Nat) : Bool := match R[a]?, R[b]? with
  | some x, some y => f x y
  | _, _ => false
theorem atB_iff {f : Rl → Rl → Bool} {R : List Rl} {a b : Nat} : atB f R a b = true ↔ ∃ x y, R[a]? = some x ∧ R[b]? = some y ∧ f x y = true := by
  unfold atB
  constructor
  · intro h
    split at h
    · rename_i x y hx hy
      exact ⟨x, y, hx, hy, h⟩
    · cases h
  · rintro ⟨x, y, hx, hy, h⟩
    rw [hx, hy]
    exact h
/-- is there a ring? -/
def ringB (R : List Rl) : Bool := (List.range R.length).any fun a => (List.range R.length).any fun b => atB agB R a b && clo (atB hangB R) R.length b a
theorem ringB_iff {R : List Rl} : ringB R = true ↔ ringP R := by
  have e : (fun a b => atB hangB R a b = true) = InM R := by
    funext a b
    exact propext atB_iff
  have hF : Fw (InM R) R.length R.length (clo (atB hangB R) R.length) :=
    ⟨fun a b _ _ h => by rw [← e]; exact clo_sound _ _ a b h, fun a b _ _ h => by rw [← e] at h; exact clo_full _ _ a b h⟩
  rw [← ring_table (Nat.le_refl _) hF]
  unfold ringB
  constructor
  · intro h
    obtain ⟨a, _, h⟩ := List.any_eq_true.1 h
    obtain ⟨b, _, h⟩ := List.any_eq_true.1 h
    simp only [Bool.and_eq_true] at h
    obtain ⟨x, y, hx, hy, hag⟩ := atB_iff.1 h.1
    exact ⟨a, b, x, y, hx, hy, hag, h.2⟩
  · rintro ⟨a, b, x, y, hx, hy, hag, h⟩
    refine List.any_eq_true.2 ⟨a, List.mem_range.2 (List.getElem?_eq_some_iff.1 hx).1, List.any_eq_true.2 ⟨b, List.mem_range.2 (List.getElem?_eq_some_iff.1 hy).1, ?_⟩⟩
    simp only [Bool.and_eq_true]
    exact ⟨atB_iff.2 ⟨x, y, hx, hy, hag⟩, h⟩
theorem ringB_t {R : List Rl} (h : ringP R) : ringB R = true := ringB_iff.2 h
theorem ringB_f {R : List Rl} (h : ¬ ringP R) : ringB R = false := by
  cases hb : ringB R with
  | false => rfl
  | true => exact absurd (ringB_iff.1 hb) h
end Go.Proofs.YtlgodpadcilcaaaDoor
namespace Go.Proofs.YtlgodpadcilcaaaDoor
open Go.ChangeShapes Go.WideShapes Go.ChangeAt Go.RowKit

theorem size_list (s : ByteArray) : s.data.toList.length = s.size := by simp
theorem take_snoc (s : ByteArray) (k : Nat) (h : k < s.size) : s.data.toList.take (k + 1) = s.data.toList.take k ++ [s[k]] := by
  rw [List.take_succ_eq_append_getElem (by simpa using h)]; rfl
theorem ret_bool {a b : Bool} (h : a = b) : Ending.returned (.bool a) = .returned (.bool b) := by rw [h]
theorem ret_int {k : IntKind} {a b : Int} (h : a = b) : Ending.returned (.int k a) = .returned (.int k b) := by rw [h]

set_option maxHeartbeats 400000 in
theorem isLetter_any (b : Nat) (w : World) (hb : b < 256) :
    Calls Tryd.prog 69 #[.int .u8 (b : Int)] w fun e w' => e = .returned (.bool (decide (97 ≤ b) && decide (b ≤ 122))) ∧ w' = w := by
  generalize hR : (decide (97 ≤ b) && decide (b ≤ 122)) = r
  have HR : Hid ((decide (97 ≤ b) && decide (b ≤ 122)) = r) := hR
  clear hR
  by_cases h1 : 97 ≤ b
  · by_cases h2 : b ≤ 122
    · have e : r = true := by rw [← HR.out]; simp [h1, h2]
      subst e
      go_enter Tryd.func69, Tryd.ntmps69
      go_wp2
      go_ret
      exact ⟨ret_bool (by simp; omega), rfl⟩
    · have e : r = false := by rw [← HR.out]; simp [h2]
      subst e
      go_enter Tryd.func69, Tryd.ntmps69
      go_wp2
      go_ret
      exact ⟨ret_bool (by simp; omega), rfl⟩
  · have e : r = false := by rw [← HR.out]; simp [h1]
    subst e
    go_enter Tryd.func69, Tryd.ntmps69
    go_wp2
    go_ret
    exact ⟨rfl, rfl⟩

def lowW (l : List UInt8) : Bool := decide (1 ≤ l.length) && decide (l.length ≤ 8) && l.all isLow

set_option maxHeartbeats 400000 in
theorem fits_any (s : ByteArray) (w : World) :
    Calls Tryd.prog 68 #[.string s, .int .i64 8, .func (.func 69) #[] #[]] w fun e w' => e = .returned (.bool (lowW s.data.toList)) ∧ w' = w := by
  generalize hR : lowW s.data.toList = r
  have HR : Hid (lowW s.data.toList = r) := hR
  clear hR
  by_cases h1 : s.size < 1
  · have e : r = false := by rw [← HR.out]; unfold lowW; rw [size_list]; simp; omega
    subst e
    go_enter Tryd.func68, Tryd.ntmps68
    go_wp2
    go_ret
    exact ⟨rfl, rfl⟩
  by_cases h8 : 8 < s.size
  · have e : r = false := by rw [← HR.out]; unfold lowW; rw [size_list]; simp; omega
    subst e
    go_enter Tryd.func68, Tryd.ntmps68
    go_wp2
    go_ret
    exact ⟨rfl, rfl⟩
  have HR2 : Hid (r = s.data.toList.all isLow) := by
    show _ = _
    rw [← HR.out]; unfold lowW; rw [size_list, decide_eq_true (show 1 ≤ s.size by omega), decide_eq_true (show s.size ≤ 8 by omega)]; rfl
  clear HR
  go_enter Tryd.func68, Tryd.ntmps68
  go_wp2
  go_loop [19] (fun i => ∃ k : Nat, k ≤ s.size ∧ i = .int .i64 k ∧ Hid ((s.data.toList.take k).all isLow = true)) (fun i => s.size - (intOf i).toNat)
  case atStart => exact ⟨0, Nat.zero_le _, rfl, by show _ = _; simp⟩
  case round =>
    obtain ⟨k, hk, rfl, H⟩ := hrel
    by_cases hlt : k < s.size
    · have hb : s[k].toNat < 256 := s[k].toNat_lt
      have HT : Hid ((s.data.toList.take (k + 1)).all isLow = (decide (97 ≤ s[k].toNat) && decide (s[k].toNat ≤ 122))) := by
        show _ = _
        rw [take_snoc s k hlt, List.all_append, H.out]
        simp [isLow]
      have HD : Hid ((decide (97 ≤ s[k].toNat) && decide (s[k].toNat ≤ 122)) = false → r = false) := fun h => by
        rw [HR2.out, List.all_eq_false]
        refine ⟨s[k], ?_, by unfold isLow; rw [h]; simp⟩
        have e : s.data.toList[k]'(by rw [size_list]; exact hlt) = s[k] := rfl
        rw [← e]
        exact List.getElem_mem _
      have hL := isLetter_any s[k].toNat w hb
      generalize (decide (97 ≤ s[k].toNat) && decide (s[k].toNat ≤ 122)) = c at *
      cases c with
      | true =>
        go_wp2_with (go_at_call 69; refine hL.mono ?_; rintro e w' ⟨rfl, rfl⟩)
        go_round
        case rel => exact ⟨k + 1, by omega, by go_num, HT⟩
        case measure => simp [intOf]; omega
      | false =>
        have e : r = false := HD.out rfl
        subst e
        go_wp2_with (go_at_call 69; refine hL.mono ?_; rintro e w' ⟨rfl, rfl⟩)
        go_ret
        exact ⟨rfl, rfl⟩
    · have e : r = true := by
        rw [HR2.out]
        have := H.out
        rw [List.take_of_length_le (by rw [size_list]; omega)] at this
        exact this
      subst e
      go_wp2
      go_ret
      exact ⟨rfl, rfl⟩

set_option maxHeartbeats 400000 in
theorem isName_any (s : ByteArray) (w : World) :
    Calls Tryd.prog 45 #[.string s] w fun e w' => e = .returned (.bool (nameL s.data.toList)) ∧ w' = w := by
  by_cases hs : s.data.toList = selfL
  · obtain rfl : s = ⟨#[115, 101, 108, 102]⟩ := by
      apply ByteArray.ext
      apply Array.toList_inj.1
      exact hs
    go_enter Tryd.func45, Tryd.ntmps45
    go_wp2
    go_ret
    exact ⟨ret_bool (by decide), rfl⟩
  · have hq : (s.toList == [115, 101, 108, 102]) = false := by
      rw [beq_eq_false_iff_ne, ByteArray.toList_eq]; exact hs
    have HN : Hid (nameL s.data.toList = lowW s.data.toList) := by
      show _ = _
      unfold nameL lowW
      rw [beq_eq_false_iff_ne.2 hs]; simp
    have hF := fits_any s w
    rw [← HN.out] at hF
    clear hs HN
    generalize nameL s.data.toList = c at *
    go_enter Tryd.func45, Tryd.ntmps45
    go_wp2_with (go_at_call 68; refine hF.mono ?_; rintro e w' ⟨rfl, rfl⟩)
    go_ret
    exact ⟨rfl, rfl⟩

set_option maxHeartbeats 400000 in
theorem word_any (s : ByteArray) (w : World) (hs : s.size ≤ 1000000) :
    Calls Tryd.prog 61 #[.string s, .bool false] w fun e w' => e = .returned (.bool (lowW s.data.toList)) ∧ w' = w := by
  generalize hR : lowW s.data.toList = r
  have HR : Hid (lowW s.data.toList = r) := hR
  clear hR
  go_enter Tryd.func61, Tryd.ntmps61
  go_wp2
  go_loop [5] (fun i => ∃ k : Nat, k ≤ s.size ∧ i = .int .i64 k ∧ Hid ((s.data.toList.take k).all isLow = true)) (fun i => s.size - (intOf i).toNat)
  case atStart => exact ⟨0, Nat.zero_le _, rfl, by show _ = _; simp⟩
  case round =>
    obtain ⟨k, hk, rfl, H⟩ := hrel
    by_cases hlt : k < s.size
    · have hb : s[k].toNat < 256 := s[k].toNat_lt
      have HT : Hid ((s.data.toList.take (k + 1)).all isLow = (decide (97 ≤ s[k].toNat) && decide (s[k].toNat ≤ 122))) := by
        show _ = _
        rw [take_snoc s k hlt, List.all_append, H.out]
        simp [isLow]
      have HD : Hid ((decide (97 ≤ s[k].toNat) && decide (s[k].toNat ≤ 122)) = false → r = false) := fun h => by
        rw [← HR.out]
        unfold lowW
        rw [Bool.and_eq_false_iff]
        right
        rw [List.all_eq_false]
        refine ⟨s[k], ?_, by unfold isLow; rw [h]; simp⟩
        have e : s.data.toList[k]'(by rw [size_list]; exact hlt) = s[k] := rfl
        rw [← e]
        exact List.getElem_mem _
      by_cases h1 : 97 ≤ s[k].toNat
      · by_cases h2 : s[k].toNat ≤ 122
        · have HT2 : Hid ((s.data.toList.take (k + 1)).all isLow = true) := by show _ = _; rw [HT.out]; simp [h1, h2]
          clear HT HD
          go_wp2
          go_round
          case rel => exact ⟨k + 1, by omega, by go_num, HT2⟩
          case measure => simp [intOf]; omega
        · have e : r = false := HD.out (by simp [h2])
          subst e
          clear HT HD
          have hd : decide ((s[k].toNat : Int) ≤ 122) = false := by simp; omega
          have hd2 : ¬ ((s[k].toNat : Int) ≤ 122) := by omega
          go_wp2
          go_ret
          exact ⟨rfl, rfl⟩
      · have e : r = false := HD.out (by simp [h1])
        subst e
        clear HT HD
        go_wp2
        go_ret
        exact ⟨rfl, rfl⟩
    · have HA : Hid (s.data.toList.all isLow = true) := by
        have := H.out
        rw [List.take_of_length_le (by rw [size_list]; omega)] at this
        exact this
      have E : Hid (r = (decide (1 ≤ s.size) && decide (s.size ≤ 8))) := by show _ = _; rw [← HR.out]; unfold lowW; rw [HA.out, size_list]; simp
      clear HR
      by_cases h1 : 1 ≤ s.size
      · by_cases h8 : s.size ≤ 8
        · have e : r = true := by rw [E.out]; simp [h1, h8]
          subst e
          go_wp2
          go_ret
          exact ⟨ret_bool (by simp; omega), rfl⟩
        · have e : r = false := by rw [E.out]; simp [h8]
          subst e
          go_wp2
          go_ret
          exact ⟨ret_bool (by simp; omega), rfl⟩
      · have e : r = false := by rw [E.out]; simp [h1]
        subst e
        go_wp2
        go_ret
        exact ⟨rfl, rfl⟩

theorem nameL_lowW (l : List UInt8) : nameL l = (lowW l && !(l == selfL)) := rfl

set_option maxHeartbeats 400000 in
theorem rname_any (s : ByteArray) (w : World) (hs : s.size ≤ 1000000) :
    Calls Tryd.prog 37 #[.string s] w fun e w' => e = .returned (.bool (nameL s.data.toList)) ∧ w' = w := by
  have hW := word_any s w hs
  have HN : Hid (nameL s.data.toList = (lowW s.data.toList && !(s.toList == [115, 101, 108, 102]))) := by show _ = _; rw [nameL_lowW, ByteArray.toList_eq]; rfl
  generalize nameL s.data.toList = r at *
  generalize lowW s.data.toList = c at *
  cases c with
  | true =>
    go_enter Tryd.func37, Tryd.ntmps37
    go_wp2_with (go_at_call 61; refine hW.mono ?_; rintro e w' ⟨rfl, rfl⟩)
    go_ret
    exact ⟨ret_bool (by rw [HN.out]; rfl), rfl⟩
  | false =>
    go_enter Tryd.func37, Tryd.ntmps37
    go_wp2_with (go_at_call 61; refine hW.mono ?_; rintro e w' ⟨rfl, rfl⟩)
    go_ret
    exact ⟨ret_bool (by rw [HN.out]; rfl), rfl⟩
end Go.Proofs.YtlgodpadcilcaaaDoor
namespace Go.Proofs.YtlgodpadcilcaaaDoor
open Go.ChangeShapes Go.WideShapes Go.ChangeAt Go.RowKit

theorem extract_list (s : ByteArray) (a b : Nat) : (s.extract a b).data.toList = (s.data.toList.drop a).take (b - a) := by
  rw [ByteArray.data_extract, Array.toList_extract, List.extract_eq_take_drop]
def strV (l : List UInt8) : Value := .string ⟨l.toArray⟩
theorem strV_of (s : ByteArray) : strV s.data.toList = .string s := rfl
theorem below_drewN (w : World) (n : Nat) (B : Nat) : Below B w (w.drewN n) := ⟨rfl, rfl, rfl, Nat.le_refl _, fun _ _ => rfl⟩

theorem idx_cases (l : List UInt8) (c : UInt8) : (Lib.indexByte l c = -1 ∧ ∀ x ∈ l, x ≠ c) ∨ ∃ p r, l = p ++ c :: r ∧ (∀ x ∈ p, x ≠ c) ∧ Lib.indexByte l c = (p.length : Int) := by
  induction l with
  | nil => exact .inl ⟨rfl, by simp⟩
  | cons b l ih =>
    by_cases hb : b = c
    · subst hb
      exact .inr ⟨[], l, rfl, by simp, by simp [Lib.indexByte]⟩
    · rcases ih with ⟨h1, h2⟩ | ⟨p, r, rfl, h2, h3⟩
      · refine .inl ⟨by simp [Lib.indexByte, hb, h1], ?_⟩
        intro x hx
        rcases List.mem_cons.1 hx with rfl | hx
        · exact hb
        · exact h2 x hx
      · refine .inr ⟨b :: p, r, rfl, ?_, ?_⟩
        · intro x hx
          rcases List.mem_cons.1 hx with rfl | hx
          · exact hb
          · exact h2 x hx
        · unfold Lib.indexByte
          rw [h3]
          have : ¬ (p.length : Int) = -1 := by omega
          simp [hb, this]

set_option maxHeartbeats 400000 in
set_option maxRecDepth 100000 in
theorem indexByte_any (s : ByteArray) (c : Int) (w : World) :
    Calls Tryd.prog 79 #[.string s, .int .u8 c] w fun e w' => e = .returned (.int .i64 (Lib.indexByte s.data.toList c.toNat.toUInt8)) ∧ w' = w := by
  generalize hR : Lib.indexByte s.data.toList c.toNat.toUInt8 = r
  have HR : Hid (Lib.indexByte s.data.toList c.toNat.toUInt8 = r) := hR
  clear hR
  go_enter Tryd.func79, Tryd.ntmps79
  go_wp2
  rw [run_callFunc_extern Tryd.func92 (by kernel_rfl) (by kernel_rfl) (by kernel_rfl) (e := Extern.BytealgIndexByte.indexByte) (by kernel_rfl), Lib.run_indexByteString, HR.out]
  simp only [Result.andThen]
  rw [Oper.upon_value]
  go_wp2
  go_ret
  exact ⟨rfl, rfl⟩

set_option maxHeartbeats 400000 in
set_option maxRecDepth 100000 in
theorem liteIndex_one (s : ByteArray) (c : UInt8) (w : World) :
    Calls Tryd.prog 67 #[.string s, .string ⟨#[c]⟩] w fun e w' => e = .returned (.int .i64 (Lib.indexByte s.data.toList c)) ∧ w' = w := by
  have hI := indexByte_any s (c.toNat : Int) w
  have e : ((c.toNat : Int)).toNat.toUInt8 = c := by simp
  rw [e] at hI
  by_cases hs : s.toList = [c]
  · have hl : s.data.toList = [c] := by rw [← ByteArray.toList_eq]; exact hs
    have hq : ([c] == s.toList) = true := by rw [hs]; exact beq_self_eq_true _
    have hr : Lib.indexByte s.data.toList c = 0 := by rw [hl]; simp [Lib.indexByte]
    rw [hr] at *
    clear hs hl hr hI
    go_enter Tryd.func67, Tryd.ntmps67
    go_wp2
    go_ret
    exact ⟨rfl, rfl⟩
  · have hq : ([c] == s.toList) = false := by rw [beq_eq_false_iff_ne]; exact fun h => hs h.symm
    clear hs
    generalize Lib.indexByte s.data.toList c = r at *
    go_enter Tryd.func67, Tryd.ntmps67
    go_wp2_with (go_at_call 79; refine hI.mono ?_; rintro e w' ⟨rfl, rfl⟩)
    go_ret
    exact ⟨rfl, rfl⟩

set_option maxHeartbeats 400000 in
theorem index_one (s : ByteArray) (c : UInt8) (w : World) :
    Calls Tryd.prog 43 #[.string s, .string ⟨#[c]⟩] w fun e w' => e = .returned (.int .i64 (Lib.indexByte s.data.toList c)) ∧ w' = w := by
  have hI := liteIndex_one s c w
  generalize Lib.indexByte s.data.toList c = r at *
  go_enter Tryd.func43, Tryd.ntmps43
  go_wp2_with (go_at_call 67; refine hI.mono ?_; rintro e w' ⟨rfl, rfl⟩)
  go_ret
  exact ⟨rfl, rfl⟩

set_option maxHeartbeats 400000 in
set_option maxRecDepth 100000 in
theorem count_one (s : ByteArray) (c : UInt8) (w : World) :
    Calls Tryd.prog 42 #[.string s, .string ⟨#[c]⟩] w fun e w' => e = .returned (.int .i64 (s.data.toList.count c : Nat)) ∧ w' = w := by
  have e : ((c.toNat : Int)).toNat.toUInt8 = c := by simp
  have hC := Lib.run_countString (P := Tryd.prog) s (c.toNat : Int) w
  rw [e] at hC
  unfold Lib.countByte at hC
  have HC : Hid ((Extern.BytealgCount.count #[.string s, .int .u8 (c.toNat : Int)]).run Tryd.prog w = .ok (.int .i64 (s.data.toList.count c : Nat)) w) := hC
  clear hC e
  generalize (s.data.toList.count c : Nat) = r at *
  go_enter Tryd.func42, Tryd.ntmps42
  go_wp2
  rw [run_callFunc_extern Tryd.func66 (by kernel_rfl) (by kernel_rfl) (by kernel_rfl) (e := Extern.BytealgCount.count) (by kernel_rfl)]
  erw [HC.out]
  simp only [Result.andThen]
  rw [Oper.upon_value]
  go_wp2
  go_ret
  exact ⟨rfl, rfl⟩

/-- a text cut at the first byte c -/
def cutL (c : UInt8) (l : List UInt8) : List UInt8 × List UInt8 × Bool :=
  match splitL c l with
  | [] => (l, [], false)
  | [_] => (l, [], false)
  | p :: _ :: _ => (p, l.drop (p.length + 1), true)

set_option maxHeartbeats 400000 in
theorem liteCut_one (s : ByteArray) (c : UInt8) (w : World) (hs : s.size ≤ 1000000) :
    Calls Tryd.prog 99 #[.string s, .string ⟨#[c]⟩] w fun e w' => ∃ n, w' = w.drewN n ∧
      (((∀ x ∈ s.data.toList, x ≠ c) ∧ e = .returned (.tuple #[.string s, .string ⟨#[]⟩, .bool false])) ∨
       ∃ p r, s.data.toList = p ++ c :: r ∧ (∀ x ∈ p, x ≠ c) ∧ e = .returned (.tuple #[strV p, strV r, .bool true])) := by
  have hI := liteIndex_one s c w
  rcases idx_cases s.data.toList c with ⟨h1, h2⟩ | ⟨p, r, h1, h2, h3⟩
  · rw [h1] at hI
    have H2 : Hid (∀ x ∈ s.data.toList, x ≠ c) := h2
    clear h1 h2
    go_enter Tryd.func99, Tryd.ntmps99
    go_wp2_with (go_at_call 67; refine hI.mono ?_; rintro e w' ⟨rfl, rfl⟩)
    go_ret3
    exact ⟨0, rfl, .inl ⟨H2.out, rfl⟩⟩
  · rw [h3] at hI
    have hl : p.length + 1 ≤ s.size := by rw [← size_list, h1]; simp
    have HP : Hid (strV p = .string (s.extract 0 p.length)) := by
      show _ = _
      rw [← strV_of, extract_list, h1]; simp
    have HR : Hid (strV r = .string (s.extract (p.length + 1) s.size)) := by
      show _ = _
      rw [← strV_of, extract_list, h1, List.take_of_length_le (by rw [← h1, List.length_drop, size_list]; omega)]
      have e : p ++ c :: r = (p ++ [c]) ++ r := by simp
      rw [e, List.drop_left' (by simp)]
    have H1 : Hid (s.data.toList = p ++ c :: r) := h1
    have H2 : Hid (∀ x ∈ p, x ≠ c) := h2
    clear h1 h2 h3
    generalize hk : p.length = k at *
    have hsA : ∀ u : World, (Instr.slice 9 (.string s) none (some (.int .i64 (k : Int))) none).run Tryd.prog u = .ok (.string (s.extract 0 k)) u := fun u => by
      rw [run_slice_string_to_if u 9 s .i64 (k : Int) Tryd.underlying9, if_pos (by omega)]
      simp
    go_enter Tryd.func99, Tryd.ntmps99
    go_wp2_with (go_at_call 67; refine hI.mono ?_; rintro e w' ⟨rfl, rfl⟩)
    go_quiet (fail)
    go_wp2
    go_ret3
    exact ⟨_, rfl, .inr ⟨p, r, H1.out, H2.out, by rw [HP.out, HR.out]; rfl⟩⟩

set_option maxHeartbeats 400000 in
theorem cut_one (s : ByteArray) (c : UInt8) (w : World) (hs : s.size ≤ 1000000) :
    Calls Tryd.prog 98 #[.string s, .string ⟨#[c]⟩] w fun e w' => ∃ n, w' = w.drewN n ∧
      (((∀ x ∈ s.data.toList, x ≠ c) ∧ e = .returned (.tuple #[.string s, .string ⟨#[]⟩, .bool false])) ∨
       ∃ p r, s.data.toList = p ++ c :: r ∧ (∀ x ∈ p, x ≠ c) ∧ e = .returned (.tuple #[strV p, strV r, .bool true])) := by
  go_enter Tryd.func98, Tryd.ntmps98
  go_wp2_with fail
  refine (liteCut_one s c w hs).mono ?_
  rintro e w' ⟨n, rfl, hh⟩
  rcases hh with ⟨h1, rfl⟩ | ⟨p, r, h1, h2, rfl⟩
  · have H1 : Hid _ := h1
    clear h1
    go_wp2
    go_ret3
    exact ⟨n, rfl, .inl ⟨H1.out, rfl⟩⟩
  · have H1 : Hid _ := h1
    have H2 : Hid _ := h2
    clear h1 h2
    unfold strV
    go_wp2
    go_ret3
    exact ⟨n, rfl, .inr ⟨p, r, H1.out, H2.out, rfl⟩⟩
end Go.Proofs.YtlgodpadcilcaaaDoor
namespace Go.Proofs.YtlgodpadcilcaaaDoor
open Go.ChangeShapes Go.WideShapes Go.ChangeAt Go.RowKit

set_option maxHeartbeats 4000000 in
set_option maxRecDepth 100000 in
theorem liteclone_any (s : ByteArray) (w : World) (hlim : s.size ≤ 1000000000) :
    Calls Tryd.prog 22 #[.string s] w fun e w' => e = .returned (.string s) ∧ Below w.heap.size w w' := by
  by_cases h0 : s.size = 0
  · have hs : s = ⟨#[]⟩ := by
      apply ByteArray.ext
      exact Array.eq_empty_of_size_eq_zero h0
    subst hs
    go_enter Tryd.func22, Tryd.ntmps22
    go_wp2
    go_ret
    exact ⟨rfl, Below.refl _ _⟩
  · have info5 : (Tryd.prog.info? 5).map (fun i => (i.zero, i.size, i.bytes)) = some (some (.int .u8 0), 1, 1) := by kernel_rfl
    obtain ⟨i0, hi, hz0, hz1, hz2⟩ := info_parts info5
    have hinfo : (Tryd.prog.info? 5).map (·.size) = some 1 := by rw [hi]; simp [hz1]
    have hco : Tryd.prog.cellsOf 5 = 1 := by simp [Program.cellsOf, hi, hz1]
    clear info5
    obtain ⟨M, hM⟩ : ∃ M, M = madeCells (Value.int .u8 0).cells (((s.size : Nat) : Int).toNat * i0.size) := ⟨_, rfl⟩
    have hMs : M.size = s.size := by rw [hM, size_madeCells, hz1]; simp
    have hmk : ∀ W : World, (Instr.makeSlice 105 (.int .i64 (s.size : Int)) (.int .i64 (s.size : Int))).run Tryd.prog W = .ok (.slice (some ⟨W.heap.size, 0, none⟩) s.size s.size) (W.alloc (.cells M 5)) := fun W => by
      have h := run_make (P := Tryd.prog) W 105 5 i0 (.int .u8 0) Tryd.underlying105 hi hz0 .i64 .i64 (s.size : Int) (s.size : Int) (by omega) (by omega) (by rw [hz2]; omega) (by omega)
      rw [← hM] at h
      simpa using h
    clear hM
    have hcp := Lib.run_copy_row_string (P := Tryd.prog) (w.alloc (.cells M 5)) 105 9 3 5 w.heap.size 0 s.size s.size s M 5 Tryd.underlying105 hinfo (heap_alloc_new w _) (Nat.le_refl _) (by omega)
    obtain ⟨Y, hY⟩ : ∃ Y, Y = (M.toList.take 0 ++ Lib.byteCells s.data.toList ++ M.toList.drop (0 + s.size)).toArray := ⟨_, rfl⟩
    rw [← hY] at hcp
    have hYl : Y.toList = Lib.byteCells s.data.toList := by
      rw [hY, List.toList_toArray, List.take_zero, List.nil_append, List.drop_of_length_le (by rw [Array.length_toList]; omega), List.append_nil]
    have hYs : Y.size = s.size := by rw [← Array.length_toList, hYl, Lib.byteCells_length, ← Lib.size_eq]
    have hgY : ((w.alloc (.cells M 5)).setRow w.heap.size Y).heap[w.heap.size]? = some (.cells Y 5 (0, 0)) := setRow_heap _ _ M _ 5 (0, 0) (heap_alloc_new w _)
    have hne : s.data.toList ≠ [] := fun e => h0 (by rw [Lib.size_eq, e]; rfl)
    have hUS := Lib.run_unsafeString_row (P := Tryd.prog) ((w.alloc (.cells M 5)).setRow w.heap.size Y) 106 3 9 5 Tryd.underlying106 hco w.heap.size Y.size (by unfold World.shape?; rw [hgY]) s.data.toList hne (by rw [← Lib.size_eq]; omega) (by rw [← Lib.size_eq]; omega)
      (fun j x hx => Lib.cells_of_row hgY Y.size j _ (by rw [List.take_of_length_le (by rw [Array.length_toList]; exact Nat.le_refl _), hYl]; simp [Lib.byteCells, hx]))
    rw [← Lib.size_eq] at hUS
    clear hY
    go_enter Tryd.func22, Tryd.ntmps22
    go_wp2
    go_ret
    have hb1 : Below w.heap.size w (w.alloc (.cells M 5)) := (Below.refl _ w).alloc (Nat.le_refl _) _
    have hb2 : Below w.heap.size (w.alloc (.cells M 5)) ((w.alloc (.cells M 5)).setRow w.heap.size Y) := ⟨rfl, rfl, rfl, by simp, fun k hk => setRow_other _ _ _ _ (by omega)⟩
    exact ⟨rfl, Lib.below_freeze (hb1.trans hb2) (p := ⟨w.heap.size, 0, none⟩) (Nat.le_refl _) _⟩

set_option maxHeartbeats 400000 in
theorem clone_any (s : ByteArray) (w : World) (hlim : s.size ≤ 1000000000) :
    Calls Tryd.prog 10 #[.string s] w fun e w' => e = .returned (.string s) ∧ Below w.heap.size w w' := by
  go_enter Tryd.func10, Tryd.ntmps10
  go_wp2_with (go_at_call 22; refine (liteclone_any _ _ hlim).mono ?_; rintro e w1 ⟨rfl, hb1⟩)
  go_ret
  exact ⟨rfl, hb1⟩

/-- v is a slice of these strings, in a block below n -/
def Strs (n : Nat) (w : World) (v : Value) (xs : List (List UInt8)) : Prop :=
  ∃ (b o c : Nat), v = .slice (some ⟨b, o, none⟩) xs.length c ∧ xs.length ≤ c ∧ b < n ∧ ∀ i (h : i < xs.length), w.cell? ⟨b, o + i, none⟩ = some (strV xs[i])
theorem Strs.below {n : Nat} {w w' : World} {v : Value} {xs : List (List UInt8)} (h : Strs n w v xs) (hb : Below n w w') : Strs n w' v xs := by
  obtain ⟨b, o, c, hv, h1, h2, h4⟩ := h
  refine ⟨b, o, c, hv, h1, h2, fun i hi => ?_⟩
  rw [hb.cell (p := ⟨b, o + i, none⟩) h2]
  exact h4 i hi
theorem Strs.mono {n m : Nat} {w : World} {v : Value} {xs : List (List UInt8)} (h : Strs n w v xs) (hm : n ≤ m) : Strs m w v xs := by
  obtain ⟨b, o, c, hv, h1, h2, h4⟩ := h
  exact ⟨b, o, c, hv, h1, by omega, h4⟩

theorem cell_set_ne {w : World} {b i j : Nat} {v : Value} (h : j ≠ i) : (w.setCell ⟨b, i, none⟩ v).cell? ⟨b, j, none⟩ = w.cell? ⟨b, j, none⟩ :=
  World.cell?_setCell_other w ⟨b, i, none⟩ ⟨b, j, none⟩ v (fun e => by cases e; exact h rfl)
theorem count_split (c : UInt8) (l : List UInt8) : (splitL c l).length = l.count c + 1 := by
  induction l with
  | nil => simp [splitL]
  | cons b r ih =>
    unfold splitL
    by_cases hb : b = c
    · subst hb; simp [ih]
    · rw [if_neg hb, List.count_cons_of_ne hb]
      split
      · rename_i h; exact absurd h (splitL_ne c r)
      · rename_i h t he; rw [he] at ih; simpa using ih
theorem count_le (c : UInt8) (l : List UInt8) : l.count c ≤ l.length := List.count_le_length

theorem split_snoc {c : UInt8} {l p : List UInt8} {r : List UInt8} {done : List (List UInt8)} (h : splitL c l = done ++ splitL c (p ++ c :: r)) (hp : ∀ x ∈ p, x ≠ c) : splitL c l = (done ++ [p]) ++ splitL c r := by
  rw [h, splitL_pre c p r hp]; simp

set_option maxHeartbeats 4000000 in
set_option maxRecDepth 100000 in
theorem genSplit_one (s : ByteArray) (c : UInt8) (w : World) (hlim : s.size ≤ 1000000) :
    Calls Tryd.prog 21 #[.string s, .string ⟨#[c]⟩, .int .i64 0, .int .i64 (-1)] w fun e w' => ∃ v, e = .returned v ∧ Strs w'.heap.size w' v (splitL c s.data.toList) ∧ Below w.heap.size w w' := by
  have info9 : (Tryd.prog.info? 9).map (fun i => (i.zero, i.size, i.bytes)) = some (some (.string ⟨#[]⟩), 1, 16) := by kernel_rfl
  obtain ⟨i0, hi, hz0, hz1, hz2⟩ := info_parts info9
  clear info9
  have hC := count_one s c w
  have hle := count_le c s.data.toList
  rw [size_list] at hle
  have HL : Hid ((splitL c s.data.toList).length = s.data.toList.count c + 1) := count_split c s.data.toList
  generalize hn : s.data.toList.count c = n at hC hle HL
  have HN : Hid (s.data.toList.count c = n) := hn
  clear hn
  obtain ⟨M, hM⟩ : ∃ M, M = madeCells (Value.string ⟨#[]⟩).cells (((n + 1 : Nat) : Int).toNat * i0.size) := ⟨_, rfl⟩
  have hMs : M.size = n + 1 := by rw [hM, size_madeCells, hz1]; simp
  have hmk : ∀ W : World, (Instr.makeSlice 35 (.int .i64 ((n : Int) + 1)) (.int .i64 ((n : Int) + 1))).run Tryd.prog W = .ok (.slice (some ⟨W.heap.size, 0, none⟩) (n + 1) (n + 1)) (W.alloc (.cells M 9)) := fun W => by
    have h := run_make (P := Tryd.prog) W 35 9 i0 (.string ⟨#[]⟩) Tryd.underlying35 hi hz0 .i64 .i64 ((n + 1 : Nat) : Int) ((n + 1 : Nat) : Int) (by omega) (by omega) (by rw [hz2]; omega) (by omega)
    rw [← hM] at h
    simpa using h
  clear hM
  have hmin : min ((n : Int) + 1) ((s.size : Int) + 1) = (n : Int) + 1 := by omega
  go_enter Tryd.func21, Tryd.ntmps21
  go_wp2_with (go_at_call 42; refine hC.mono ?_; rintro e w' ⟨rfl, rfl⟩)
  go_loopw [0, 10] (fun v0 vi wr => ∃ (k : Nat) (done : List (List UInt8)) (rest : ByteArray), v0 = .string rest ∧ vi = .int .i64 k ∧ k ≤ n ∧ rest.size ≤ s.size ∧ Below w'.heap.size w' wr ∧ wr.heap.size = w'.heap.size + 1 ∧ (∀ j, j ≤ n → (wr.cell? ⟨w'.heap.size, j, none⟩).isSome = true ∧ wr.frozen? ⟨w'.heap.size, j, none⟩ = false) ∧ Hid (done.length = k ∧ splitL c s.data.toList = done ++ splitL c rest.data.toList ∧ k + rest.data.toList.count c = n ∧ ∀ j (h : j < done.length), wr.cell? ⟨w'.heap.size, j, none⟩ = some (strV done[j]))) (fun _ i _ => n - (intOf i).toNat)
  case atStart =>
    refine ⟨0, [], s, rfl, rfl, Nat.zero_le _, Nat.le_refl _, (Below.refl _ _).alloc (Nat.le_refl _) _, by simp, fun j hj => ⟨?_, ?_⟩, show _ ∧ _ from ⟨rfl, rfl, by rw [HN.out]; omega, fun j h => by simp at h⟩⟩
    · rw [World.cell?_alloc_new, Array.getElem?_eq_getElem (by omega)]; rfl
    · exact World.frozen?_alloc_new _ _ _ _
  case round =>
    obtain ⟨k, done, rest, rfl, rfl, hk, hrs, hb, hsz, hcells, HI⟩ := hrel
    by_cases hlt : k < n
    · have hX := index_one rest c wr
      rcases idx_cases rest.data.toList c with ⟨h1, h2⟩ | ⟨p, r, h1, h2, h3⟩
      · exfalso
        have h4 := HI.out.2.2.1
        rw [List.count_eq_zero.2 (fun hm => h2 c hm rfl)] at h4
        omega
      · rw [h3] at hX
        have hl : p.length + 1 ≤ rest.size := by rw [← size_list, h1]; simp
        have HP : Hid (strV p = .string (rest.extract 0 p.length)) := by
          show _ = _
          rw [← strV_of, extract_list, h1]; simp
        have HR : Hid ((rest.extract (p.length + 1) rest.size).data.toList = r) := by
          show _ = _
          rw [extract_list, h1, List.take_of_length_le (by rw [← h1, List.length_drop, size_list]; omega)]
          have e : p ++ c :: r = (p ++ [c]) ++ r := by simp
          rw [e, List.drop_left' (by simp)]
        have HI2 : Hid ((done ++ [p]).length = k + 1 ∧ splitL c s.data.toList = (done ++ [p]) ++ splitL c r ∧ k + 1 + r.count c = n) := by
          refine ⟨by simp [HI.out.1], split_snoc (by rw [← h1]; exact HI.out.2.1) h2, ?_⟩
          have h4 := HI.out.2.2.1
          rw [h1, List.count_append, List.count_cons_self, List.count_eq_zero.2 (fun hm => h2 c hm rfl)] at h4
          omega
        have hd1 := HI.out.1
        have HC : Hid (∀ j (h : j < done.length), wr.cell? ⟨w'.heap.size, j, none⟩ = some (strV done[j])) := HI.out.2.2.2
        clear h1 h2 h3 HI
        generalize hpk : p.length = q at *
        obtain ⟨hc1, hc2⟩ := hcells k (by omega)
        obtain ⟨u, hu⟩ := Option.isSome_iff_exists.1 hc1
        have hsA : ∀ u : World, (Instr.slice 9 (.string rest) none (some (.int .i64 (q : Int))) none).run Tryd.prog u = .ok (.string (rest.extract 0 q)) u := fun u => by
          rw [run_slice_string_to_if u 9 rest .i64 (q : Int) Tryd.underlying9, if_pos (by omega)]
          simp
        go_wp2_with (go_at_call 43; refine hX.mono ?_; rintro e w2 ⟨rfl, rfl⟩)
        go_roundw
        case rel =>
          refine ⟨k + 1, done ++ [p], rest.extract (q + 1) rest.size, rfl, by go_num, by omega, by rw [ByteArray.size_extract]; omega, hb.setCell (p := ⟨w'.heap.size, k, none⟩) (Nat.le_refl _) _, by simp [hsz], fun j hj => ⟨?_, ?_⟩, show _ ∧ _ from ⟨HI2.out.1, by rw [HR.out]; exact HI2.out.2.1, by rw [HR.out]; exact HI2.out.2.2, fun j hj => ?_⟩⟩
          · by_cases e : j = k
            · subst e; rw [World.cell?_setCell_same' _ _ _ hc1]; rfl
            · rw [cell_set_ne e]; exact (hcells j hj).1
          · rw [World.frozen?_setCell]; exact (hcells j hj).2
          · by_cases e : j = k
            · subst e
              rw [World.cell?_setCell_same' _ _ _ hc1, List.getElem_append_right (by omega)]
              simp [hd1, HP.out]
            · rw [cell_set_ne e]
              simp at hj
              rw [HC.out j (by omega), List.getElem_append_left]
        case measure => simp [intOf]; omega
    · obtain rfl : k = n := by omega
      have h0 : rest.data.toList.count c = 0 := by have := HI.out.2.2.1; omega
      have hnone : ∀ x ∈ rest.data.toList, x ≠ c := fun x hx e => by
        subst e
        exact absurd hx (List.count_eq_zero.1 h0)
      have HS : Hid (splitL c s.data.toList = done ++ [rest.data.toList]) := by
        show _ = _
        rw [HI.out.2.1, splitL_all c _ hnone]
      have hd1 := HI.out.1
      have HC : Hid (∀ j (h : j < done.length), wr.cell? ⟨w'.heap.size, j, none⟩ = some (strV done[j])) := HI.out.2.2.2
      clear HI h0 hnone
      obtain ⟨hc1, hc2⟩ := hcells k (by omega)
      obtain ⟨u, hu⟩ := Option.isSome_iff_exists.1 hc1
      go_wp2
      go_ret
      refine ⟨_, rfl, ?_, hb.setCell (p := ⟨w'.heap.size, k, none⟩) (Nat.le_refl _) _⟩
      rw [HS.out]
      refine ⟨w'.heap.size, 0, k + 1, ?_, by simp [hd1], by simp [hsz], fun j hj => ?_⟩
      · simp [hd1]
        try omega
      · rw [Nat.zero_add]
        by_cases e : j = k
        · subst e
          rw [World.cell?_setCell_same' _ _ _ hc1, List.getElem_append_right (by omega)]
          simp [hd1, strV_of]
        · rw [cell_set_ne e]
          simp at hj
          rw [HC.out j (by omega), List.getElem_append_left]

set_option maxHeartbeats 400000 in
theorem split_one (s : ByteArray) (c : UInt8) (w : World) (hlim : s.size ≤ 1000000) :
    Calls Tryd.prog 9 #[.string s, .string ⟨#[c]⟩] w fun e w' => ∃ v, e = .returned v ∧ Strs w'.heap.size w' v (splitL c s.data.toList) ∧ Below w.heap.size w w' := by
  go_enter Tryd.func9, Tryd.ntmps9
  go_wp2_with (go_at_call 21; refine (genSplit_one s c w hlim).mono ?_; rintro e w1 ⟨v, rfl, hv, hb1⟩)
  go_ret
  exact ⟨_, rfl, hv, hb1⟩

set_option maxHeartbeats 400000 in
theorem hasPrefix_slashes (s : ByteArray) (w : World) (hlim : s.size ≤ 1000000) :
    Calls Tryd.prog 23 #[.string s, .string ⟨#[47, 47]⟩] w fun e w' => e = .returned (.bool (s.data.toList.take 2 == [47, 47])) ∧ w' = w := by
  have hL : ∀ w, Calls Tryd.prog 44 #[.string s, .string ⟨#[47, 47]⟩] w fun e w' => e = .returned (.bool (s.data.toList.take 2 == [47, 47])) ∧ w' = w := by
    intro w
    by_cases h2 : 2 ≤ s.size
    · have HX : Hid ((s.data.toList.take 2 == [47, 47]) = ((s.extract 0 2).toList == [47, 47])) := by
        show _ = _
        rw [ByteArray.toList_eq, extract_list]; simp
      rw [HX.out]
      clear HX
      go_enter Tryd.func44, Tryd.ntmps44
      go_wp2
      go_ret
      exact ⟨rfl, rfl⟩
    · have e : (s.data.toList.take 2 == [47, 47]) = false := by
        rw [beq_eq_false_iff_ne]
        intro h
        have := congrArg List.length h
        rw [List.length_take, size_list] at this
        simp at this
        omega
      rw [e]
      clear e
      go_enter Tryd.func44, Tryd.ntmps44
      go_wp2
      go_ret
      exact ⟨rfl, rfl⟩
  generalize (s.data.toList.take 2 == [47, 47]) = r at *
  go_enter Tryd.func23, Tryd.ntmps23
  go_wp2_with (go_at_call 44; refine (hL _).mono ?_; rintro e w' ⟨rfl, rfl⟩)
  go_ret
  exact ⟨rfl, rfl⟩
end Go.Proofs.YtlgodpadcilcaaaDoor
namespace Go.Proofs.YtlgodpadcilcaaaDoor
open Go.ChangeShapes Go.WideShapes Go.ChangeAt Go.RowKit

theorem info9 : (Tryd.prog.info? 9).map (fun i => (i.zero, i.size, i.bytes)) = some (some (.string ⟨#[]⟩), 1, 16) := by kernel_rfl
theorem new_cell (w : World) (p : List UInt8) : ∀ j u, [strV p][j]? = some u → (w.alloc (.cells #[strV p] 9)).cell? ((⟨w.heap.size, 0, none⟩ : Addr).add j) = some u :=
  World.news_of_block (cs := #[strV p]) (t := 9) (fr := (0, 0)) (heap_alloc_new w _)
theorem grown_below {B : Nat} {w w' : World} {row : Option Nat} (h : w.grownBy w' row) (hB : B ≤ w.heap.size) (hr : ∀ k, row = some k → B ≤ k) : Below B w w' :=
  ⟨h.os, h.tape, h.output, h.size, fun k hk => h.block k (by omega) (fun e => by have := hr k e.symm; omega)⟩
theorem Strs.of_owns {w : World} {B : Nat} {v : Value} {xs : List (List UInt8)} (h0 : xs ≠ []) (h : w.ownsRow B 9 1 v xs.length (xs.map strV)) : Strs w.heap.size w v xs := by
  have hl : 0 < xs.length := List.length_pos_iff.2 h0
  have h' := h
  rcases h.2 with ⟨_, h2⟩ | ⟨g, cap, cur, hv, hg, hh, hcap, _⟩
  · omega
  · rw [hv] at h'
    have hc : ∀ i (hi : i < xs.length), w.cell? ⟨g, 0 + i, none⟩ = some (strV xs[i]) := fun i hi => by
      rw [Nat.zero_add, h'.cellAt i (by omega)]
      simp [List.getElem?_eq_getElem hi]
    exact ⟨g, 0, cap, hv, hcap, World.block_lt_of_cell? w ⟨g, 0 + 0, none⟩ (hc 0 hl), hc⟩

set_option maxHeartbeats 1000000 in
set_option maxRecDepth 100000 in
theorem pieces_own (s : ByteArray) (c : UInt8) (w : World) (hs : s.size ≤ 1000000) :
    Calls Tryd.prog 15 #[.string s, .int .u8 (c.toNat : Int)] w fun e w' => ∃ v, e = .returned v ∧ w'.ownsRow w.heap.size 9 1 v (splitL c s.data.toList).length ((splitL c s.data.toList).map strV) ∧ Below w.heap.size w w' := by
  obtain ⟨i0, hi, hz0, hz1, hz2⟩ := info_parts info9
  have hc : c.toNat < 256 := c.toNat_lt
  go_enter Tryd.func15, Tryd.ntmps15
  go_wp2
  go_loopw [5, 6, 7] (fun v vf vi wr => ∃ (f i : Nat) (xs : List (List UInt8)), vf = .int .i64 f ∧ vi = .int .i64 i ∧ xs.length ≤ i ∧ wr.ownsRow w.heap.size 9 1 v xs.length (xs.map strV) ∧ Below w.heap.size w wr ∧ i ≤ s.size + 1 ∧ Hid ((i = s.size + 1 ∧ splitL c s.data.toList = xs) ∨ (i ≤ s.size ∧ f ≤ i ∧ splitL c s.data.toList = xs ++ splitL c (s.data.toList.drop f) ∧ ∀ x ∈ (s.data.toList.drop f).take (i - f), x ≠ c))) (fun _ _ i _ => s.size + 1 - (intOf i).toNat)
  case atStart => exact ⟨0, 0, [], rfl, rfl, Nat.zero_le _, World.ownsRow_nil _ _ _ _, Below.refl _ _, Nat.zero_le _, .inr ⟨Nat.zero_le _, Nat.le_refl _, by simp, by simp⟩⟩
  case round =>
    obtain ⟨f, i, xs, rfl, rfl, hxi, hown, hb, hi1, HI⟩ := hrel
    by_cases hle : i ≤ s.size
    · obtain ⟨hfi, h3, h4⟩ : f ≤ i ∧ splitL c s.data.toList = xs ++ splitL c (s.data.toList.drop f) ∧ ∀ x ∈ (s.data.toList.drop f).take (i - f), x ≠ c := by
        rcases HI.out with ⟨h1, _⟩ | ⟨_, h⟩
        · omega
        · exact h
      clear HI
      have HE : Hid ((s.data.toList.drop f).take (i - f) = (s.extract f i).data.toList) := (extract_list s f i).symm
      by_cases heq : i = s.size
      · have HS : Hid (splitL c s.data.toList = xs ++ [(s.data.toList.drop f).take (i - f)]) := by
          show _ = _
          have e : (s.data.toList.drop f).take (i - f) = s.data.toList.drop f := List.take_of_length_le (by rw [List.length_drop, size_list]; omega)
          rw [e] at h4 ⊢
          rw [h3, splitL_all c _ h4]
        clear h3 h4
        rw [HE.out] at HS
        clear HE
        subst heq
        have hbq : (((s.size : Nat) : Int) == (s.size : Int)) = true := beq_self_eq_true _
        go_wp2_with (at_builtin; refine wpList_append_own _ rfl _ _ 35 rfl w.heap.size 9 i0 _ 1 16 Tryd.underlying35 hi hz0 hz1 hz2 rfl (by decide) _ _ _ rfl (hown.alloc _) ⟨wr.heap.size, 0, none⟩ 1 1 [.string (s.extract f _)] rfl rfl (new_cell _ _) (fun x hx => by simp at hx; subst hx; rfl) (by unfold maxLen; omega) (by omega) (by have := hb.size; simp; omega) ?_; intro v' w3 hown' hgrow3 hnil3)
        go_roundw
        case rel =>
          refine ⟨s.size + 1, s.size + 1, xs ++ [(s.extract f _).data.toList], by go_num, by go_num, by simp; omega, by rw [List.length_append, List.map_append]; exact hown', (hb.alloc hb.size _).trans (grown_below hgrow3 (by have := hb.size; simp; omega) (fun k hk => (hown.lt k hk).1)), Nat.le_refl _, .inl ⟨rfl, HS.out⟩⟩
        case measure => simp [intOf]
      · have hlt : i < s.size := by omega
        have hb1 : s[i].toNat < 256 := s[i].toNat_lt
        have hgi : s.data.toList[i]'(by rw [size_list]; exact hlt) = s[i] := rfl
        by_cases hq : s[i].toNat = c.toNat
        · have hqc : s[i] = c := UInt8.toNat_inj.1 hq
          have HS : Hid (splitL c s.data.toList = (xs ++ [(s.data.toList.drop f).take (i - f)]) ++ splitL c (s.data.toList.drop (i + 1))) := by
            show _ = _
            refine split_snoc (p := (s.data.toList.drop f).take (i - f)) ?_ h4
            rw [h3]
            congr 2
            have e : s.data.toList.drop i = c :: s.data.toList.drop (i + 1) := by
              rw [List.drop_eq_getElem_cons (by rw [size_list]; exact hlt), hgi, hqc]
            rw [← e]
            have e2 : s.data.toList.drop i = (s.data.toList.drop f).drop (i - f) := by rw [List.drop_drop]; congr 1; omega
            rw [e2, List.take_append_drop]
          clear h3 h4 hgi
          rw [HE.out] at HS
          clear HE
          have hbi : (((i : Nat) : Int) == (s.size : Int)) = false := by rw [beq_eq_false_iff_ne]; omega
          have hbq : (((s[i].toNat : Nat) : Int) == (c.toNat : Int)) = true := by rw [beq_iff_eq]; omega
          clear hqc hq
          go_wp2_with (at_builtin; refine wpList_append_own _ rfl _ _ 35 rfl w.heap.size 9 i0 _ 1 16 Tryd.underlying35 hi hz0 hz1 hz2 rfl (by decide) _ _ _ rfl (hown.alloc _) ⟨wr.heap.size, 0, none⟩ 1 1 [.string (s.extract f _)] rfl rfl (new_cell _ _) (fun x hx => by simp at hx; subst hx; rfl) (by unfold maxLen; omega) (by omega) (by have := hb.size; simp; omega) ?_; intro v' w3 hown' hgrow3 hnil3)
          go_roundw
          case rel =>
            refine ⟨i + 1, i + 1, xs ++ [(s.extract f _).data.toList], by go_num, by go_num, by simp; omega, by rw [List.length_append, List.map_append]; exact hown', (hb.alloc hb.size _).trans (grown_below hgrow3 (by have := hb.size; simp; omega) (fun k hk => (hown.lt k hk).1)), by omega, .inr ⟨by omega, Nat.le_refl _, HS.out, by simp⟩⟩
          case measure => simp [intOf]; omega
        · have H4 : Hid (∀ x ∈ (s.data.toList.drop f).take (i + 1 - f), x ≠ c) := by
            show ∀ x ∈ _, _
            have e : (s.data.toList.drop f).take (i + 1 - f) = (s.data.toList.drop f).take (i - f) ++ [s[i]] := by
              rw [show i + 1 - f = (i - f) + 1 by omega, List.take_succ_eq_append_getElem (by rw [List.length_drop, size_list]; omega), List.getElem_drop]
              congr 2
              have : f + (i - f) = i := by omega
              simp only [this]
              exact hgi
            rw [e]
            intro x hx
            rcases List.mem_append.1 hx with hx | hx
            · exact h4 x hx
            · simp at hx
              subst hx
              exact fun e => hq (congrArg UInt8.toNat e)
          have H3 : Hid _ := h3
          clear h3 h4 HE hgi
          have hbi : (((i : Nat) : Int) == (s.size : Int)) = false := by rw [beq_eq_false_iff_ne]; omega
          have hbq : (((s[i].toNat : Nat) : Int) == (c.toNat : Int)) = false := by rw [beq_eq_false_iff_ne]; omega
          go_wp2
          go_roundw
          case rel => exact ⟨f, i + 1, xs, rfl, by go_num, by omega, hown, hb, by omega, .inr ⟨by omega, by omega, H3.out, H4.out⟩⟩
          case measure => simp [intOf]; omega
    · have HS : Hid (splitL c s.data.toList = xs) := by
        rcases HI.out with ⟨_, h⟩ | ⟨h, _⟩
        · exact h
        · omega
      clear HI
      go_wp2
      go_ret
      refine ⟨_, rfl, ?_, hb⟩
      rw [HS.out]
      exact hown
theorem pieces_any (s : ByteArray) (c : UInt8) (w : World) (hs : s.size ≤ 1000000) :
    Calls Tryd.prog 15 #[.string s, .int .u8 (c.toNat : Int)] w fun e w' => ∃ v, e = .returned v ∧ Strs w'.heap.size w' v (splitL c s.data.toList) ∧ Below w.heap.size w w' := by
  refine (pieces_own s c w hs).mono ?_
  rintro e w' ⟨v, h1, h2, h3⟩
  exact ⟨v, h1, Strs.of_owns (splitL_ne _ _) h2, h3⟩
theorem pieces_new (s : ByteArray) (c : UInt8) (w : World) (hs : s.size ≤ 1000000) :
    Calls Tryd.prog 15 #[.string s, .int .u8 (c.toNat : Int)] w fun e w' => ∃ g cap, e = .returned (.slice (some ⟨g, 0, none⟩) (splitL c s.data.toList).length cap) ∧ (splitL c s.data.toList).length ≤ cap ∧ w.heap.size ≤ g ∧ g < w'.heap.size ∧ (∀ i (h : i < (splitL c s.data.toList).length), w'.cell? ⟨g, i, none⟩ = some (strV (splitL c s.data.toList)[i])) ∧ Below w.heap.size w w' := by
  refine (pieces_own s c w hs).mono ?_
  rintro e w' ⟨v, rfl, h, h3⟩
  have hl : 0 < (splitL c s.data.toList).length := List.length_pos_iff.2 (splitL_ne _ _)
  generalize splitL c s.data.toList = xs at *
  have h' := h
  rcases h.2 with ⟨_, h2⟩ | ⟨g, cap, cur, hv, hg, hh, hcap, _⟩
  · omega
  · rw [hv] at h'
    have hc : ∀ i (hi : i < xs.length), w'.cell? ⟨g, i, none⟩ = some (strV xs[i]) := fun i hi => by
      rw [h'.cellAt i (by omega)]
      simp [List.getElem?_eq_getElem hi]
    exact ⟨g, cap, by rw [hv], hcap, (h'.lt g rfl).1, (h'.lt g rfl).2, hc, h3⟩
end Go.Proofs.YtlgodpadcilcaaaDoor
namespace Go.Proofs.YtlgodpadcilcaaaDoor
open Go.ChangeShapes Go.WideShapes Go.ChangeAt Go.RowKit

set_option maxHeartbeats 400000 in
theorem joining_any (s : ByteArray) (w : World) :
    Calls Tryd.prog 88 #[.string s] w fun e w' => w' = w ∧ e = .returned (.tuple #[.int .i64 (((markL s.data.toList).getD 0 : Nat) : Int), .bool (markL s.data.toList).isSome]) := by
  have hT : s.toList = s.data.toList := ByteArray.toList_eq s
  by_cases h1 : s.data.toList = [124]
  · have hm : markL s.data.toList = some 3 := by unfold markL; rw [if_pos h1]
    have q1 : (s.toList == [124]) = true := by rw [hT, h1]; rfl
    rw [hm]
    clear hm h1 hT
    go_enter Tryd.func88, Tryd.ntmps88
    go_wp2
    go_ret2
    exact ⟨rfl, rfl⟩
  have q1 : (s.toList == [124]) = false := by rw [hT, beq_eq_false_iff_ne]; exact h1
  by_cases h2 : s.data.toList = [38]
  · have hm : markL s.data.toList = some 4 := by unfold markL; rw [if_neg h1, if_pos h2]
    have q2 : (s.toList == [38]) = true := by rw [hT, h2]; rfl
    rw [hm]
    clear hm h1 h2 hT
    go_enter Tryd.func88, Tryd.ntmps88
    go_wp2
    go_ret2
    exact ⟨rfl, rfl⟩
  have q2 : (s.toList == [38]) = false := by rw [hT, beq_eq_false_iff_ne]; exact h2
  by_cases h3 : s.data.toList = [45]
  · have hm : markL s.data.toList = some 5 := by unfold markL; rw [if_neg h1, if_neg h2, if_pos h3]
    have q3 : (s.toList == [45]) = true := by rw [hT, h3]; rfl
    rw [hm]
    clear hm h1 h2 h3 hT
    go_enter Tryd.func88, Tryd.ntmps88
    go_wp2
    go_ret2
    exact ⟨rfl, rfl⟩
  have q3 : (s.toList == [45]) = false := by rw [hT, beq_eq_false_iff_ne]; exact h3
  have hm : markL s.data.toList = none := by unfold markL; rw [if_neg h1, if_neg h2, if_neg h3]
  rw [hm]
  clear hm h1 h2 h3 hT
  go_enter Tryd.func88, Tryd.ntmps88
  go_wp2
  go_ret2
  exact ⟨rfl, rfl⟩

/-- the parser's block P holds the words that are still to be read -/
def Rest (n P : Nat) (w : World) (xs : List (List UInt8)) : Prop :=
  P < w.heap.size ∧ n ≤ P ∧ (∃ v, w.cell? ⟨P, 0, none⟩ = some v ∧ Strs n w v xs) ∧ w.frozen? ⟨P, 0, none⟩ = false

set_option maxHeartbeats 1000000 in
theorem take_nil (n P : Nat) (s : ByteArray) (w : World) (h : Rest n P w []) :
    Calls Tryd.prog 89 #[.pointer (some ⟨P, 0, none⟩), .string s] w fun e w' => e = .returned (.bool false) ∧ w' = w := by
  obtain ⟨_, _, ⟨v, hv, b, o, c, rfl, _⟩, _⟩ := h
  simp only [List.length_nil] at hv
  go_enter Tryd.func89, Tryd.ntmps89
  go_wp2
  go_ret
  exact ⟨rfl, rfl⟩

set_option maxHeartbeats 1000000 in
theorem take_other (n P : Nat) (s : ByteArray) (x : List UInt8) (xs : List (List UInt8)) (w : World) (h : Rest n P w (x :: xs)) (hx : x ≠ s.data.toList) :
    Calls Tryd.prog 89 #[.pointer (some ⟨P, 0, none⟩), .string s] w fun e w' => e = .returned (.bool false) ∧ w' = w := by
  obtain ⟨_, _, ⟨v, hv, b, o, c, rfl, hc, hb, hcell⟩, _⟩ := h
  have h0 : w.cell? ⟨b, o, none⟩ = some (.string ⟨x.toArray⟩) := hcell 0 (by simp)
  have q : ((⟨x.toArray⟩ : ByteArray).toList == s.toList) = false := by
    rw [beq_eq_false_iff_ne, ByteArray.toList_eq, ByteArray.toList_eq]; exact hx
  clear hcell hx
  simp only [List.length_cons] at hv hc
  generalize (⟨x.toArray⟩ : ByteArray) = y at *
  generalize xs.length = k at *
  go_enter Tryd.func89, Tryd.ntmps89
  go_wp2
  go_ret
  exact ⟨rfl, rfl⟩
end Go.Proofs.YtlgodpadcilcaaaDoor
namespace Go.Proofs.YtlgodpadcilcaaaDoor
open Go.ChangeShapes Go.WideShapes Go.ChangeAt Go.RowKit

theorem setCell_grown (w : World) (P i : Nat) (v : Value) : w.grownBy (w.setCell ⟨P, i, none⟩ v) (some P) :=
  ⟨rfl, rfl, rfl, by simp, fun k _ hk => Below.heap_setCell _ _ _ _ (by intro e; exact hk (by rw [e]))⟩

theorem cell_set_far {w : World} {P i b o : Nat} {v : Value} (h : b ≠ P) : (w.setCell ⟨P, i, none⟩ v).cell? ⟨b, o, none⟩ = w.cell? ⟨b, o, none⟩ :=
  World.cell?_of_block (w := w) (a := ⟨b, o, none⟩) (Below.heap_setCell _ _ _ _ h)

set_option maxHeartbeats 1000000 in
theorem take_same (n P : Nat) (s : ByteArray) (xs : List (List UInt8)) (w : World) (h : Rest n P w (s.data.toList :: xs)) :
    Calls Tryd.prog 89 #[.pointer (some ⟨P, 0, none⟩), .string s] w fun e w' => e = .returned (.bool true) ∧ Rest n P w' xs ∧ w.grownBy w' (some P) ∧ w'.heap.size = w.heap.size := by
  obtain ⟨hP, hn, ⟨v, hv, b, o, c, rfl, hc, hb, hcell⟩, hf⟩ := h
  have h0 : w.cell? ⟨b, o, none⟩ = some (.string s) := hcell 0 (by simp)
  have q : (s.toList == s.toList) = true := beq_self_eq_true _
  have HC : Hid (∀ i (h : i < xs.length), w.cell? ⟨b, o + 1 + i, none⟩ = some (strV xs[i])) := fun i hi => by
    have := hcell (i + 1) (by simp; omega)
    rw [show o + 1 + i = o + (i + 1) by omega]
    simpa using this
  clear hcell
  simp only [List.length_cons] at hv hc
  have hs : ∀ u, (w.setCell ⟨P, 0, none⟩ u).cell? ⟨P, 0, none⟩ = some u := fun u => World.cell?_setCell_same' _ _ _ (by rw [hv]; rfl)
  have HS : Hid (∀ u, (w.setCell ⟨P, 0, none⟩ u).cell? ⟨P, 0, none⟩ = some u) := hs
  clear hs
  by_cases hc1 : c = 1
  · subst hc1
    have hx : xs = [] := List.eq_nil_of_length_eq_zero (by omega)
    subst hx
    go_enter Tryd.func89, Tryd.ntmps89
    go_wp2
    go_ret
    exact ⟨rfl, ⟨by simpa using hP, hn, ⟨_, HS.out _, b, o, 0, rfl, Nat.zero_le _, hb, fun i hi => by simp at hi⟩, by rw [World.frozen?_setCell]; exact hf⟩, setCell_grown _ _ _ _, by simp⟩
  · go_enter Tryd.func89, Tryd.ntmps89
    go_wp2
    go_ret
    refine ⟨rfl, ⟨by simpa using hP, hn, ⟨_, HS.out _, b, o + 1, c - 1, rfl, by omega, hb, fun i hi => ?_⟩, by rw [World.frozen?_setCell]; exact hf⟩, setCell_grown _ _ _ _, by simp⟩
    rw [cell_set_far (by omega)]
    exact HC.out i hi

/-- an expression's cells; what they lead to lies in blocks of which S holds -/
def ERep (S : Nat → Prop) (w : World) : Exp → List Value → Prop
  | ⟨.inl none⟩, cs => cs = [.int .i64 0, .string ⟨#[]⟩, .string ⟨#[]⟩, .slice none 0 0]
  | ⟨.inl (some (x, none))⟩, cs => cs = [.int .i64 1, strV x, .string ⟨#[]⟩, .slice none 0 0]
  | ⟨.inl (some (x, some y))⟩, cs => cs = [.int .i64 2, strV x, strV y, .slice none 0 0]
  | ⟨.inr (k, es)⟩, cs => ∃ g cap, cs = [.int .i64 (k : Int), .string ⟨#[]⟩, .string ⟨#[]⟩, .slice (some ⟨g, 0, none⟩) es.length cap] ∧ S g ∧ es ≠ [] ∧ all g 0 es
where all (g i : Nat) : List Exp → Prop
  | [] => True
  | e :: r => (∃ cs, w.rangeAt g (4 * i) cs ∧ ERep S w e cs) ∧ all g (i + 1) r

theorem ERep.len {S : Nat → Prop} {w : World} {e : Exp} {cs : List Value} (h : ERep S w e cs) : cs.length = 4 := by
  cases e using Exp.kind with
  | leaf s => cases s using Sing.kind <;> (simp only [ERep] at h; rw [h]; rfl)
  | join k es => simp only [ERep] at h; obtain ⟨g, cap, rfl, _⟩ := h; rfl

theorem ERep.keep {S T : Nat → Prop} {w w' : World} (hT : ∀ k, S k → T k) (hb : ∀ k, S k → w'.heap[k]? = w.heap[k]?) : ∀ (e : Exp) (cs : List Value), ERep S w e cs → ERep T w' e cs
  | ⟨.inl none⟩, cs, h => by simp only [ERep] at h ⊢; exact h
  | ⟨.inl (some (x, none))⟩, cs, h => by simp only [ERep] at h ⊢; exact h
  | ⟨.inl (some (x, some y))⟩, cs, h => by simp only [ERep] at h ⊢; exact h
  | ⟨.inr (k, es)⟩, cs, h => by
    simp only [ERep] at h ⊢
    obtain ⟨g, cap, h1, h2, h3, h4⟩ := h
    exact ⟨g, cap, h1, hT g h2, h3, keepAll g h2 es 0 h4⟩
where keepAll (g : Nat) (hg : S g) : ∀ (es : List Exp) (i : Nat), ERep.all S w g i es → ERep.all T w' g i es
  | [], i, h => by simp only [ERep.all]
  | e :: r, i, h => by
    simp only [ERep.all] at h ⊢
    obtain ⟨⟨cs, h1, h2⟩, h3⟩ := h
    exact ⟨⟨cs, fun j v hv => by rw [World.cell?_of_block (w := w) (hb g hg)]; exact h1 j v hv, ERep.keep hT hb e cs h2⟩, keepAll g hg r (i + 1) h3⟩
theorem ERep.mono {S T : Nat → Prop} {w w' : World} {e : Exp} {cs : List Value} (h : ERep S w e cs) (hT : ∀ k, S k → T k) (hb : ∀ k, S k → w'.heap[k]? = w.heap[k]?) : ERep T w' e cs := ERep.keep hT hb e cs h
/-- the terms from number i on, by their places -/
theorem ERep.all_iff {S : Nat → Prop} {w : World} {g : Nat} : ∀ (es : List Exp) (i : Nat), ERep.all S w g i es ↔ ∀ j (h : j < es.length), ∃ cs, w.rangeAt g (4 * (i + j)) cs ∧ ERep S w es[j] cs
  | [], i => by simp [ERep.all]
  | e :: r, i => by
    simp only [ERep.all]
    rw [ERep.all_iff r (i + 1)]
    constructor
    · rintro ⟨h1, h2⟩ j hj
      cases j with
      | zero => simpa using h1
      | succ j =>
        have := h2 j (by simp at hj; omega)
        rw [show i + 1 + j = i + (j + 1) by omega] at this
        simpa using this
    · intro h
      refine ⟨by have := h 0 (by simp); rw [Nat.add_zero] at this; exact this, fun j hj => ?_⟩
      have := h (j + 1) (by simp; omega)
      rw [show i + (j + 1) = i + 1 + j by omega] at this
      simpa using this

theorem sizeE : (Tryd.prog.info? 74).map (·.size) = some 4 := by kernel_rfl

theorem post_exp {fn : Func} (hres : fn.results = #[.cell 2 74, .tmp 3]) {R : Ending → World → Prop} {a : Act} {w : World} (B : Nat) (cs : List Value) (ok : Value) (hd : a.defers = [])
    (h2 : a.tmps.getD 2 undef = .pointer (some ⟨B, 0, none⟩)) (h3 : a.tmps.getD 3 undef = ok) (hl : cs.length = 4) (hc : w.rangeAt B 0 cs) (hR : R (.returned (.tuple #[.agg cs.toArray, ok])) w) : bodyPost Tryd.prog fn R .ret a w := by
  refine bodyPost_ret (v := .tuple #[.agg cs.toArray, ok]) ?_ hd hR
  rw [results_cell_tmp hres, h2, h3]
  simp only [asAddr, Sem.run_pure, Result.andThen]
  rw [run_loadVar_mid w B 0 74 cs _ hc Tryd.underlying74 rfl (by rw [sizeE, hl])]

theorem range_new (w : World) (cs : Array Value) (t : TypeId) : (w.alloc (.cells cs t)).rangeAt w.heap.size 0 cs.toList := fun j v hv => by
  rw [Nat.zero_add, World.cell?_alloc_new]
  simpa using hv

set_option maxHeartbeats 1000000 in
theorem singleTerm_self (w : World) :
    Calls Tryd.prog 95 #[.string ⟨#[115, 101, 108, 102]⟩] w fun e w' => e = .returned (.tuple #[.agg #[.int .i64 0, .string ⟨#[]⟩, .string ⟨#[]⟩, .slice none 0 0], .bool true]) ∧ Below w.heap.size w w' := by
  go_enter Tryd.func95, Tryd.ntmps95
  go_wp2
  refine post_exp rfl w.heap.size [.int .i64 0, .string ⟨#[]⟩, .string ⟨#[]⟩, .slice none 0 0] (.bool true) rfl rfl rfl rfl (range_new _ _ _) ?_
  exact ⟨rfl, (Below.refl _ _).alloc (Nat.le_refl _) _⟩
end Go.Proofs.YtlgodpadcilcaaaDoor
