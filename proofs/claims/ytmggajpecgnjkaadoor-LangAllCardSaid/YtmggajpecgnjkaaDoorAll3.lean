/-
  Texts of this claim, joined (part 3): contracts and lemmas that the last text goes by. No statement of the seat is proved here.
-/
import Derived.Test.YtmggajpecgnjkaaDoorAll2
import Derived.Deep.Strs
set_option linter.unusedVariables false
set_option linter.unusedSimpArgs false
/-
  The mathematics of expressions that are printed and parsed, last part: an expression that may be, printed and parsed, is it. No statement of the seat is proved here.
-/
namespace Go.Proofs.YtmggajpecgnjkaaDoor
open Go
set_option maxRecDepth 100000


mutual
/-- all sets are four words -/
def setsE : Ex → Prop
  | .mk _ s ks _ _ => SetOk s ∧ setsL ks
def setsL : List Ex → Prop
  | [] => True
  | x :: xs => setsE x ∧ setsL xs
end
theorem setsL_mem {l : List Ex} (h : setsL l) : ∀ x ∈ l, setsE x := by
  induction l with
  | nil => simp
  | cons y r ih =>
    intro x hx
    obtain ⟨h1, h2⟩ := h
    rcases List.mem_cons.1 hx with rfl | hx
    · exact h1
    · exact ih h2 x hx

def rstop (l : List Nat) : Prop := l = [] ∨ l.head? = some 124 ∨ l.head? = some 41
def astop (l : List Nat) : Prop := l = [] ∨ l.head? = some 41
theorem astop.r {l : List Nat} (h : astop l) : rstop l := h.elim .inl (fun h => .inr (.inr h))
theorem rstop.sign {l : List Nat} (h : rstop l) : signP l = false := by
  rcases l with _ | ⟨a, r⟩
  · rfl
  · rcases h with h | h | h
    · cases h
    · injection h with h; subst h; rfl
    · injection h with h; subst h; rfl
theorem timesP_none (x : Ex) {l : List Nat} (h : signP l = false) : timesP x l = .ok x l := by
  unfold timesP
  split <;> first | rfl | (simp [signP] at h)
theorem PR.bind_bind {α β γ : Type} (p : PR α) (f : α → List Nat → PR β) (g : β → List Nat → PR γ) : (p.bind f).bind g = p.bind fun x r => (f x r).bind g := by
  cases p <;> rfl

/-- a kid as it is told within a kind -/
def elemT (k : Int) (x : Ex) : List Nat := if inB k x.kind then 40 :: (textE x ++ [41]) else textE x
def Par (t : Ex) : Prop :=
  (t.kind = 1 ∨ t.kind = 4 → ∀ f l, 4 * (textE t).length + 2 ≤ f → signP l = false → (atomP f (textE t ++ l)).bind (fun x l1 => timesP x l1) = .ok t l) ∧
  (t.kind ≠ 3 → ∀ f l, 4 * (textE t).length + 3 ≤ f → rstop l → rowP f [] (textE t ++ l) = .ok t l) ∧
  (∀ f l, 4 * (textE t).length + 4 ≤ f → astop l → altsP f (textE t ++ l) = .ok t l)
theorem Par.brackets {t : Ex} (h : Par t) {f : Nat} (hf : 4 * (textE t).length + 5 ≤ f) (l : List Nat) : atomP f (40 :: (textE t ++ 41 :: l)) = .ok t l := by
  obtain ⟨f, rfl⟩ : ∃ g, f = g + 1 := ⟨f - 1, by omega⟩
  simp only [atomP]
  rw [h.2.2 f (41 :: l) (by omega) (.inr rfl)]
  rfl
def Head (e : List Nat) : Prop := ∀ l, ∃ a r, e ++ l = a :: r ∧ a ≠ 124 ∧ a ≠ 41 ∧ a ≠ 42 ∧ a ≠ 43 ∧ a ≠ 63 ∧ a ≠ 123
theorem Head.len {e : List Nat} (h : Head e) : 1 ≤ e.length := by
  obtain ⟨a, r, e', _⟩ := h []
  have := congrArg List.length e'
  simp at this
  omega
theorem Head.sign {e : List Nat} (h : Head e) (l : List Nat) : signP (e ++ l) = false := by
  obtain ⟨a, r, e', _, _, h1, h2, h3, h4⟩ := h l
  rw [e']
  simp [signP, h1, h2, h3, h4]
theorem Head.go {e : List Nat} (h : Head e) (l : List Nat) : ¬ (e ++ l = [] ∨ (e ++ l).head? = some 124 ∨ (e ++ l).head? = some 41) := by
  obtain ⟨a, r, e', h1, h2, _⟩ := h l
  rw [e']
  simp [h1, h2]
theorem head_bracket (e : List Nat) : Head (40 :: (e ++ [41])) := fun l => ⟨40, _, rfl, by decide, by decide, by decide, by decide, by decide, by decide⟩
/-- an element of a row -/
def Elem (e : List Nat) (x : Ex) : Prop := Head e ∧ ∀ f l, 4 * e.length + 2 ≤ f → signP l = false → (atomP f (e ++ l)).bind (fun x l1 => timesP x l1) = .ok x l
theorem elem_bracket {x : Ex} (h : Par x) : Elem (40 :: (textE x ++ [41])) x := by
  refine ⟨head_bracket _, fun f l hf hl => ?_⟩
  have e : 40 :: (textE x ++ [41]) ++ l = 40 :: (textE x ++ 41 :: l) := by simp
  rw [e, h.brackets (by simp only [List.length_cons, List.length_append, List.length_nil] at hf; omega)]
  simp only [PR.bind]
  exact timesP_none x hl
def cat (es : List (List Nat)) : List Nat := es.flatten
/-- rows -/
theorem rowP_elems : ∀ (es : List (List Nat × Ex)) (f : Nat) (acc : List Ex) (l : List Nat), (∀ p ∈ es, Elem p.1 p.2) → 4 * (cat (es.map (·.1))).length + 3 ≤ f → rstop l →
    rowP f acc (cat (es.map (·.1)) ++ l) = .ok (seqE (acc ++ es.map (·.2))) l
  | [], f + 1, acc, l, _, _, hl => by
    simp only [List.map_nil, cat, List.flatten_nil, List.nil_append, List.append_nil, rowP]
    rw [if_pos (show l = [] ∨ l.head? = some 124 ∨ l.head? = some 41 from hl)]
  | (e, x) :: es, f + 1, acc, l, h, hf, hl => by
    obtain ⟨h1, h2⟩ : Elem e x := h (e, x) (by simp)
    have hlen : 1 ≤ e.length := h1.len
    have ec : cat (((e, x) :: es).map (·.1)) ++ l = e ++ (cat (es.map (·.1)) ++ l) := by simp [cat]
    have hcl : (cat (((e, x) :: es).map (·.1))).length = e.length + (cat (es.map (·.1))).length := by simp [cat]
    rw [hcl] at hf
    have hs : signP (cat (es.map (·.1)) ++ l) = false := by
      cases es with
      | nil => simpa [cat] using hl.sign
      | cons p es' =>
        have := (h p (by simp)).1.sign (cat (es'.map (·.1)) ++ l)
        simpa [cat] using this
    rw [ec]
    simp only [rowP]
    rw [if_neg (h1.go _), ← PR.bind_bind, h2 f _ (by omega) hs]
    simp only [PR.bind]
    rw [rowP_elems es f (acc ++ [x]) l (fun p hp => h p (by simp [hp])) (by omega) hl]
    simp
/-- what stands behind the first alternative -/
def moreT (es : List (List Nat × Ex)) : List Nat := es.flatMap fun p => 124 :: p.1
def AltElem (e : List Nat) (x : Ex) : Prop := ∀ f l, 4 * e.length + 3 ≤ f → rstop l → rowP f [] (e ++ l) = .ok x l
theorem moreP_elems : ∀ (es : List (List Nat × Ex)) (f : Nat) (acc : List Ex) (l : List Nat), (∀ p ∈ es, AltElem p.1 p.2) → 4 * (moreT es).length + 1 ≤ f → astop l →
    moreP f acc (moreT es ++ l) = .ok (altE (acc ++ es.map (·.2))) l
  | [], f + 1, acc, l, _, _, hl => by
    simp only [moreT, List.flatMap_nil, List.nil_append, List.map_nil, List.append_nil, moreP]
    rcases l with _ | ⟨a, r⟩
    · rfl
    · rcases hl with h | h
      · cases h
      · injection h with h; subst h; rfl
  | (e, x) :: es, f + 1, acc, l, h, hf, hl => by
    have ec : moreT ((e, x) :: es) ++ l = 124 :: (e ++ (moreT es ++ l)) := by simp [moreT]
    have hcl : (moreT ((e, x) :: es)).length = 1 + e.length + (moreT es).length := by simp [moreT]; omega
    rw [hcl] at hf
    have hr : rstop (moreT es ++ l) := by
      cases es with
      | nil => simpa [moreT] using hl.r
      | cons p es' => exact .inr (.inl (by simp [moreT]))
    rw [ec]
    simp only [moreP]
    have h1 : AltElem e x := h (e, x) (by simp)
    rw [h1 f _ (by omega) hr]
    simp only [PR.bind]
    rw [moreP_elems es f (acc ++ [x]) l (fun p hp => h p (by simp [hp])) (by omega) hl]
    simp

/-! ### all kinds -/
theorem altElem_raw {x : Ex} (h : Par x) (hk : x.kind ≠ 3) : AltElem (textE x) x := fun f l hf hl => h.2.1 hk f l hf hl
theorem altElem_bracket {x : Ex} (h : Par x) : AltElem (40 :: (textE x ++ [41])) x := fun f l hf hl => by
  have := rowP_elems [(40 :: (textE x ++ [41]), x)] f [] l (by simpa using elem_bracket h) (by simpa [cat] using hf) hl
  simpa [cat, seqE] using this
theorem inB_seq {k c : Int} (hk : k = 2) (hc : c = 0 ∨ c = 1 ∨ c = 2 ∨ c = 3 ∨ c = 4) (h : inB k c = false) : c = 1 ∨ c = 4 := by
  subst hk
  simp [inB] at h
  omega
theorem textL_cat (k : Int) (hk : k ≠ 3) : ∀ (l : List Ex) (f : Bool), textL k f l = cat (l.map (elemT k))
  | [], _ => by simp [textL, cat]
  | x :: r, f => by
    simp only [textL, List.map_cons, cat, List.flatten_cons]
    rw [if_neg (by simp [hk]), textL_cat k hk r false]
    simp [elemT, cat]
theorem textL_more : ∀ (l : List Ex), textL 3 false l = moreT (l.map fun x => (elemT 3 x, x))
  | [] => by simp [textL, moreT]
  | x :: r => by
    simp only [textL]
    simp [textL_more r, moreT, elemT]
theorem map_snd (g : Ex → List Nat) (l : List Ex) : (l.map fun x => (g x, x)).map (·.2) = l := by
  induction l with
  | nil => rfl
  | cons a r ih => simpa using ih
theorem map_fst (g : Ex → List Nat) (l : List Ex) : (l.map fun x => (g x, x)).map (·.1) = l.map g := by
  induction l with
  | nil => rfl
  | cons a r ih => simp [Function.comp]
theorem one_of {deep : Nat} {k : Int} {s : List Nat} {ks : List Ex} {lo hi : Int} (h : oneE deep (.mk k s ks lo hi) = true) :
    (k ≠ 1 → s = zeroB) ∧ (k ≠ 4 → lo = 0 ∧ hi = 0) ∧ (k = 0 ∧ ks = [] ∨ (k = 1 ∧ ks = [] ∧ s ≠ zeroB) ∨ ((k = 2 ∨ k = 3) ∧ 2 ≤ ks.length ∧ ∀ x ∈ ks, oneE (deep + 1) x = true) ∨ (k = 4 ∧ ks.length = 1 ∧ repB lo hi = true ∧ ∀ x ∈ ks, oneE (deep + 1) x = true)) := by
  simp only [oneE] at h
  split at h
  · cases h
  rename_i hn
  refine ⟨fun h1 => ?_, fun h4 => ?_, ?_⟩
  · by_cases e : s = zeroB
    · exact e
    · exact absurd (.inr (.inl ⟨h1, e⟩)) hn
  · by_cases e : lo = 0 ∧ hi = 0
    · exact e
    · refine absurd (.inr (.inr ⟨h4, ?_⟩)) hn
      by_cases e1 : lo = 0
      · exact .inr fun e2 => e ⟨e1, e2⟩
      · exact .inl e1
  · split at h
    · rename_i hk
      exact .inl ⟨hk, by simpa using h⟩
    split at h
    · rename_i hk
      simp only [Bool.and_eq_true, decide_eq_true_eq, List.isEmpty_iff] at h
      exact .inr (.inl ⟨hk, h.1, h.2⟩)
    split at h
    · rename_i hk
      simp only [Bool.and_eq_true, decide_eq_true_eq, oneL_all, List.all_eq_true] at h
      exact .inr (.inr (.inl ⟨hk, h.1, h.2⟩))
    split at h
    · rename_i hk
      simp only [Bool.and_eq_true, decide_eq_true_eq, oneL_all, List.all_eq_true] at h
      exact .inr (.inr (.inr ⟨hk, h.1.1, h.1.2, h.2⟩))
    · cases h
theorem one_kind {deep : Nat} {t : Ex} (h : oneE deep t = true) : t.kind = 0 ∨ t.kind = 1 ∨ t.kind = 2 ∨ t.kind = 3 ∨ t.kind = 4 := by
  cases t with
  | mk k s ks lo hi =>
    obtain ⟨_, _, h⟩ := one_of h
    simp only [Ex.kind]
    omega
theorem alts_of_alt {e : List Nat} {x : Ex} (h : AltElem e x) (f : Nat) (l : List Nat) (hf : 4 * e.length + 4 ≤ f) (hl : astop l) : altsP f (e ++ l) = .ok x l := by
  obtain ⟨f, rfl⟩ : ∃ g, f = g + 1 := ⟨f - 1, by omega⟩
  simp only [altsP]
  rw [h f l (by omega) hl.r]
  have := moreP_elems [] f [x] l (by simp) (by simp [moreT]; omega) hl
  simpa [moreT, PR.bind, altE] using this
theorem alt_of_elem {e : List Nat} {x : Ex} (h : Elem e x) : AltElem e x := fun f l hf hl => by
  have := rowP_elems [(e, x)] f [] l (by simpa using h) (by simpa [cat] using hf) hl
  simpa [cat, seqE] using this
theorem par_of_alt {x : Ex} (h : AltElem (textE x) x) (hk : x.kind ≠ 1 ∧ x.kind ≠ 4) : Par x :=
  ⟨fun h1 => absurd h1 (by omega), fun _ f l hf hl => h f l hf hl, fun f l hf hl => alts_of_alt h f l hf hl⟩
theorem par_of_elem {x : Ex} (h : Elem (textE x) x) : Par x :=
  ⟨fun _ f l hf hl => h.2 f l hf hl, fun _ f l hf hl => alt_of_elem h f l hf hl, fun f l hf hl => alts_of_alt (alt_of_elem h) f l hf hl⟩
def ParE (t : Ex) : Prop := Par t ∧ (t.kind = 1 ∨ t.kind = 4 → Elem (textE t) t)
theorem ParE.elem {x : Ex} {deep : Nat} (h : ParE x) (ho : oneE deep x = true) : Elem (elemT 2 x) x := by
  unfold elemT
  cases hb : inB 2 x.kind with
  | true => exact elem_bracket h.1
  | false => exact h.2 (inB_seq rfl (one_kind ho) hb)
theorem ParE.alt {x : Ex} (h : ParE x) : AltElem (elemT 3 x) x := by
  unfold elemT
  cases hb : inB 3 x.kind with
  | true => exact altElem_bracket h.1
  | false => exact altElem_raw h.1 (fun e => by simp [inB, e] at hb)
theorem set_elem {s : List Nat} (h : SetOk s) (h0 : s ≠ zeroB) : Elem (textE (.mk 1 s [] 0 0)) (.mk 1 s [] 0 0) := by
  refine ⟨fun l => by simpa [textE] using setT_head h h0 l, fun f l hf hl => ?_⟩
  obtain ⟨f, rfl⟩ : ∃ g, f = g + 1 := ⟨f - 1, by omega⟩
  have e : textE (.mk 1 s [] 0 0) = setT s := by simp [textE]
  rw [e, atomP_set h h0]
  exact timesP_none _ hl
theorem Head.app {e : List Nat} (h : Head e) (e' : List Nat) : Head (e ++ e') := fun l => by
  rw [List.append_assoc]; exact h _
theorem par_all (t : Ex) : ∀ deep, oneE deep t = true → setsE t → ParE t := by
  refine ex_induct (p := fun t => ∀ deep, oneE deep t = true → setsE t → ParE t) (fun k s ks lo hi ih deep ho hs => ?_) t
  obtain ⟨hz, hlh, hc⟩ := one_of ho
  obtain ⟨hset, hks⟩ := hs
  have hks := setsL_mem hks
  rcases hc with ⟨rfl, rfl⟩ | ⟨rfl, rfl, h0⟩ | ⟨hk, hlen, hone⟩ | ⟨rfl, hlen, hrep, hone⟩
  · obtain ⟨rfl, rfl⟩ := hlh (by decide)
    obtain rfl := hz (by decide)
    refine ⟨par_of_alt (fun f l hf hl => ?_) (by simp [Ex.kind]), fun h => absurd h (by simp [Ex.kind])⟩
    have := rowP_elems [] f [] l (by simp) (by simp [cat]; omega) hl
    simpa [cat, textE, textL, seqE, emptyE] using this
  · obtain ⟨rfl, rfl⟩ := hlh (by decide)
    exact ⟨par_of_elem (set_elem hset h0), fun _ => set_elem hset h0⟩
  · obtain ⟨rfl, rfl⟩ := hlh (by omega)
    obtain rfl := hz (by omega)
    have hp : ∀ x ∈ ks, ParE x := fun x hx => ih x hx (deep + 1) (hone x hx) (hks x hx)
    rcases hk with rfl | rfl
    · refine ⟨par_of_alt (fun f l hf hl => ?_) (by simp [Ex.kind]), fun h => absurd h (by simp [Ex.kind])⟩
      have et : textE (.mk 2 zeroB ks 0 0) = cat (ks.map (elemT 2)) := by simp [textE, textL_cat]
      rw [et] at hf ⊢
      have := rowP_elems (ks.map fun x => (elemT 2 x, x)) f [] l (by
        intro p hp'
        obtain ⟨x, hx, rfl⟩ := List.mem_map.1 hp'
        exact (hp x hx).elem (hone x hx)) (by rw [map_fst]; exact hf) hl
      rw [map_fst, map_snd] at this
      rw [this]
      rcases ks with _ | ⟨a, _ | ⟨b, r⟩⟩
      · simp at hlen
      · simp at hlen
      · rfl
    · refine ⟨⟨fun h => absurd h (by simp [Ex.kind]), fun h => absurd rfl h, fun f l hf hl => ?_⟩, fun h => absurd h (by simp [Ex.kind])⟩
      rcases ks with _ | ⟨a, r⟩
      · simp at hlen
      have et : textE (.mk 3 zeroB (a :: r) 0 0) = elemT 3 a ++ moreT (r.map fun x => (elemT 3 x, x)) := by simp [textE, textL, textL_more, elemT]
      rw [et] at hf ⊢
      obtain ⟨f, rfl⟩ : ∃ g, f = g + 1 := ⟨f - 1, by omega⟩
      simp only [List.length_append] at hf
      rw [List.append_assoc]
      simp only [altsP]
      have hr : rstop (moreT (r.map fun x => (elemT 3 x, x)) ++ l) := by
        cases r with
        | nil => simpa [moreT] using hl.r
        | cons p es' => exact .inr (.inl (by simp [moreT]))
      rw [(hp a (by simp)).alt f _ (by omega) hr]
      simp only [PR.bind]
      rw [moreP_elems _ f [a] l (by
        intro p hp'
        obtain ⟨x, hx, rfl⟩ := List.mem_map.1 hp'
        exact (hp x (by simp [hx])).alt) (by omega) hl, map_snd]
      rcases r with _ | ⟨b, r⟩
      · simp at hlen
      · rfl
  · obtain rfl := hz (by decide)
    obtain ⟨y, rfl⟩ := List.length_eq_one_iff.1 hlen
    have hy := ih y (by simp) (deep + 1) (hone y (by simp)) (hks y (by simp))
    suffices h : Elem (textE (.mk 4 zeroB [y] lo hi)) (.mk 4 zeroB [y] lo hi) from ⟨par_of_elem h, fun _ => h⟩
    by_cases h1 : y.kind = 1
    · have he := hy.2 (.inl h1)
      have et : textE (.mk 4 zeroB [y] lo hi) = textE y ++ timesT lo hi := by simp [textE, textR, h1]
      rw [et]
      refine ⟨he.1.app _, fun f l hf hl => ?_⟩
      obtain ⟨f, rfl⟩ : ∃ g, f = g + 1 := ⟨f - 1, by omega⟩
      cases y with
      | mk k' s' ks' lo' hi' =>
        simp only [Ex.kind] at h1
        subst h1
        obtain ⟨_, hlh', hc'⟩ := one_of (hone _ (List.mem_singleton.2 rfl))
        obtain ⟨rfl, rfl⟩ := hlh' (by decide)
        rcases hc' with ⟨h, _⟩ | ⟨_, rfl, h0⟩ | ⟨h, _⟩ | ⟨h, _⟩
        · exact absurd h (by decide)
        · have e : textE (.mk 1 s' [] 0 0) = setT s' := by simp [textE]
          rw [e, List.append_assoc, atomP_set (hks _ (List.mem_singleton.2 rfl)).1 h0]
          exact timesP_sign hrep _ hl
        · exact absurd h (by decide)
        · exact absurd h (by decide)
    · have et : textE (.mk 4 zeroB [y] lo hi) = 40 :: (textE y ++ [41]) ++ timesT lo hi := by simp [textE, textR, h1]
      rw [et]
      refine ⟨(head_bracket _).app _, fun f l hf hl => ?_⟩
      have e : 40 :: (textE y ++ [41]) ++ timesT lo hi ++ l = 40 :: (textE y ++ 41 :: (timesT lo hi ++ l)) := by simp
      rw [e, hy.1.brackets (by simp only [List.length_cons, List.length_append, List.length_nil] at hf; omega)]
      exact timesP_sign hrep _ hl
theorem parse_print {t : Ex} (h : isE t = true) (hs : setsE t) : parseE (textE t) = (t, 0, 0) := by
  have h' := h
  simp only [isE, Bool.and_eq_true, decide_eq_true_eq] at h'
  have := (par_all t 1 h'.1.1.1.1 hs).1.2.2 (fuelP (textE t)) [] (by unfold fuelP; omega) (.inl rfl)
  rw [List.append_nil] at this
  unfold parseE
  rw [if_neg (by omega), this]
  simp [h]
/-- what is printed, parsed -/
theorem parse_of_print {t : Ex} (h : isE t = true) (hs : setsE t) : parseE (printE t) = (t, 0, 0) := by
  rw [printE, if_pos h]
  exact parse_print h hs
end Go.Proofs.YtmggajpecgnjkaaDoor

/-
  The mathematics of RegexRows: texts as expressions, some of them in brackets, printed and parsed. No statement of the seat is proved here.
-/
namespace Go.Proofs.YtmggajpecgnjkaaDoor
set_option maxRecDepth 100000

theorem byte_facts : ∀ b : Fin 256, listB (ofB [b.val]) = [b.val] ∧ ofB [b.val] ≠ zeroB := by decide +kernel
theorem signB_lenW (c : Nat) : (signB c).length ≤ 4 := by unfold signB; split <;> simp
theorem textE_byte {b : Nat} (h : b < 256) : textE (byteE b) = signB b := by
  have := byte_facts ⟨b, h⟩
  simp only at this
  simp [textE, byteE, classE, setT, this.1]
theorem oneE_byte {b deep : Nat} (h : b < 256) (hd : deep ≤ 16) : oneE deep (byteE b) = true := by
  have h2 := (byte_facts ⟨b, h⟩).2
  simp only at h2
  unfold byteE classE
  simp only [oneE]
  rw [if_neg (by simp; omega), if_neg (by decide)]
  simp [h2]
theorem setsE_byte (b : Nat) : setsE (byteE b) := by
  simp only [byteE, classE, setsE, setsL, and_true]
  exact ofB_ok _
theorem nodesL_bytes (u : List Nat) : nodesL (u.map byteE) = u.length := by
  induction u with
  | nil => rfl
  | cons a r ih => simp only [List.map_cons, nodesL, ih, List.length_cons]; simp [byteE, classE, nodesE, nodesL]; omega
theorem weightL_bytes (u : List Nat) : ∀ n, weightL n (u.map byteE) ≤ n + u.length := by
  induction u with
  | nil => intro n; simp [weightL]
  | cons a r ih =>
    intro n
    have h1 : weightE (byteE a) = 1 := by simp [byteE, classE, weightE, weightL]
    have := ih (min 5000 (n + weightE (byteE a)))
    simp only [List.map_cons, weightL, List.length_cons]
    omega
theorem nestL_bytes (u : List Nat) : nestL 0 (u.map byteE) = 0 := by
  induction u with
  | nil => rfl
  | cons a r ih => simp only [List.map_cons, nestL]; simpa [byteE, classE, nestE, nestL] using ih
theorem textL_bytes (u : List Nat) (h : ∀ b ∈ u, b < 256) : ∀ f, (textL 2 f (u.map byteE)).length ≤ 4 * u.length := by
  induction u with
  | nil => intro f; simp [textL]
  | cons a r ih =>
    intro f
    have h1 := ih (fun b hb => h b (by simp [hb])) false
    have h2 := signB_lenW a
    have hk : (byteE a).kind = 1 := rfl
    simp only [List.map_cons, textL, List.length_append, List.length_cons, hk, textE_byte (h a (by simp))]
    simp [inB]
    omega
/-- what is told of a short text -/
structure Sm (n : Nat) (t : Ex) : Prop where
  one : oneE 2 t = true
  nodes : nodesE t ≤ n + 1
  weight : weightE t ≤ n + 1
  nest : nestE t = 0
  kind : t.kind ≠ 3
  sets : setsE t
  len : (textE t).length ≤ 4 * n
theorem setsL_bytes (u : List Nat) : setsL (u.map byteE) := by
  induction u with
  | nil => simp [setsL]
  | cons a r ih => simp only [List.map_cons, setsL]; exact ⟨setsE_byte a, ih⟩
theorem sm_textX (u : List Nat) (h : ∀ b ∈ u, b < 256) : Sm u.length (textX u) := by
  match u, h with
  | [], _ => exact ⟨by decide, by decide, by decide, by decide, by decide, by simp [textX, seqE, emptyE, setsE, setsL]; exact zero_ok, by decide⟩
  | [b], h =>
    have hb := h b (by simp)
    refine ⟨oneE_byte hb (by omega), ?_, ?_, ?_, by simp [textX, seqE, byteE, classE, Ex.kind], setsE_byte b, ?_⟩
    · simp [textX, seqE, byteE, classE, nodesE, nodesL]
    · simp [textX, seqE, byteE, classE, weightE, weightL]
    · simp [textX, seqE, byteE, classE, nestE, nestL]
    · show (textE (byteE b)).length ≤ _
      rw [textE_byte hb]
      exact signB_lenW b
  | b :: c :: r, h =>
    have e : textX (b :: c :: r) = .mk 2 zeroB ((b :: c :: r).map byteE) 0 0 := rfl
    rw [e]
    have hn := nodesL_bytes (b :: c :: r)
    have hw := weightL_bytes (b :: c :: r) 0
    have ht := nestL_bytes (b :: c :: r)
    have hl := textL_bytes (b :: c :: r) h true
    have hs := setsL_bytes (b :: c :: r)
    have ho : oneL 3 ((b :: c :: r).map byteE) = true := by
      rw [oneL_all, List.all_eq_true]
      intro x hx
      obtain ⟨a, ha, rfl⟩ := List.mem_map.1 hx
      exact oneE_byte (h a ha) (by omega)
    have h2 : 2 ≤ ((b :: c :: r).map byteE).length := by simp
    generalize (b :: c :: r).map byteE = K at *
    generalize (b :: c :: r).length = n at *
    refine ⟨?_, by simp only [nodesE]; omega, by simp [weightE]; omega, by simp [nestE]; omega, by simp [Ex.kind], by simp only [setsE]; exact ⟨zero_ok, hs⟩, by simp [textE]; omega⟩
    simp [oneE, ho, h2]
theorem nodesL_le {l : List Ex} {m : Nat} (h : ∀ x ∈ l, nodesE x ≤ m) : nodesL l ≤ l.length * m := by
  induction l with
  | nil => simp [nodesL]
  | cons a r ih =>
    have h1 := h a (by simp)
    have h2 := ih (fun x hx => h x (by simp [hx]))
    simp only [nodesL, List.length_cons, Nat.add_mul]
    omega
theorem weightL_le2 {l : List Ex} {m : Nat} (h : ∀ x ∈ l, weightE x ≤ m) : ∀ n, weightL n l ≤ n + l.length * m := by
  induction l with
  | nil => intro n; simp [weightL]
  | cons a r ih =>
    intro n
    have h1 := h a (by simp)
    have h2 := ih (fun x hx => h x (by simp [hx])) (min 5000 (n + weightE a))
    simp only [weightL, List.length_cons, Nat.add_mul]
    omega
theorem nestL_zero2 {l : List Ex} (h : ∀ x ∈ l, nestE x = 0) : nestL 0 l = 0 := by
  induction l with
  | nil => simp [nestL]
  | cons a r ih => simp only [nestL, h a (by simp)]; exact ih (fun x hx => h x (by simp [hx]))
theorem textL_len3 {l : List Ex} {m : Nat} (h : ∀ x ∈ l, (textE x).length ≤ m ∧ x.kind ≠ 3) : ∀ f, (textL 3 f l).length ≤ l.length * (m + 1) := by
  induction l with
  | nil => intro f; simp [textL]
  | cons a r ih =>
    intro f
    obtain ⟨h1, h3⟩ := h a (by simp)
    have h2 := ih (fun x hx => h x (by simp [hx])) false
    have hb : inB 3 a.kind = false := by simp [inB, h3]
    simp only [textL, hb, List.length_append, List.length_cons, Nat.add_mul]
    simp only [Bool.false_eq_true, if_false, true_and]
    have : (if f = false then ([124] : List Nat) else []).length ≤ 1 := by split <;> simp
    omega
theorem isE_text {u : List Nat} (h : ∀ b ∈ u, b < 256) (hl : u.length ≤ 10) : isE (textX u) = true := by
  have s := sm_textX u h
  have := s.nodes; have := s.weight; have := s.nest; have := s.len
  have h1 : oneE 1 (textX u) = true := by
    have := s.one
    match u, h with
    | [], _ => decide
    | [b], h => exact oneE_byte (h b (by simp)) (by omega)
    | b :: c :: r, h =>
      have e : textX (b :: c :: r) = .mk 2 zeroB ((b :: c :: r).map byteE) 0 0 := rfl
      rw [e]
      have ho : oneL 2 ((b :: c :: r).map byteE) = true := by
        rw [oneL_all, List.all_eq_true]
        intro x hx
        obtain ⟨a, ha, rfl⟩ := List.mem_map.1 hx
        exact oneE_byte (h a ha) (by omega)
      have h2 : 2 ≤ ((b :: c :: r).map byteE).length := by simp
      generalize (b :: c :: r).map byteE = K at *
      simp [oneE, ho, h2]
  simp only [isE, h1, Bool.and_eq_true, decide_eq_true_eq, true_and]
  omega
/-- the row's expression -/
def rowX (l : List (List Nat)) : Ex := .mk 3 zeroB (l.map textX) 0 0
def rowB (l : List (List Nat)) : List Nat := textL 3 true (l.map textX)
theorem rowX_alt {l : List (List Nat)} (h : 2 ≤ l.length) : altE (l.map textX) = rowX l := by
  match l, h with
  | a :: b :: r, _ => rfl
theorem rowB_text (l : List (List Nat)) : textE (rowX l) = rowB l := by simp [rowX, textE, rowB]
theorem rowB_len {l : List (List Nat)} (h : ∀ u ∈ l, u.length ≤ 10 ∧ ∀ b ∈ u, b < 256) : (rowB l).length ≤ l.length * 41 := by
  have := textL_len3 (l := l.map textX) (m := 40) (by
    intro x hx
    obtain ⟨u, hu, rfl⟩ := List.mem_map.1 hx
    have s := sm_textX u (h u hu).2
    have := s.len
    have := (h u hu).1
    exact ⟨by omega, s.kind⟩) true
  rwa [List.length_map] at this
theorem isE_row {l : List (List Nat)} (h2 : 2 ≤ l.length) (h8 : l.length ≤ 8) (h : ∀ u ∈ l, u.length ≤ 10 ∧ ∀ b ∈ u, b < 256) : isE (rowX l) = true ∧ setsE (rowX l) := by
  have key : ∀ x ∈ l.map textX, oneE 2 x = true ∧ nodesE x ≤ 11 ∧ weightE x ≤ 11 ∧ nestE x = 0 ∧ setsE x := by
    intro x hx
    obtain ⟨u, hu, rfl⟩ := List.mem_map.1 hx
    have s := sm_textX u (h u hu).2
    have := (h u hu).1
    exact ⟨s.one, by have := s.nodes; omega, by have := s.weight; omega, s.nest, s.sets⟩
  have hlen := rowB_len h
  have hn := nodesL_le (l := l.map textX) (m := 11) (fun x hx => (key x hx).2.1)
  have hw := weightL_le2 (l := l.map textX) (m := 11) (fun x hx => (key x hx).2.2.1) 0
  have ht := nestL_zero2 (l := l.map textX) (fun x hx => (key x hx).2.2.2.1)
  have ho : oneL 2 (l.map textX) = true := by rw [oneL_all, List.all_eq_true]; exact fun x hx => (key x hx).1
  have hs : setsL (l.map textX) := by
    have : ∀ m : List Ex, (∀ x ∈ m, setsE x) → setsL m := by
      intro m
      induction m with
      | nil => intro _; simp [setsL]
      | cons a r ih => intro hh; simp only [setsL]; exact ⟨hh a (by simp), ih (fun x hx => hh x (by simp [hx]))⟩
    exact this _ fun x hx => (key x hx).2.2.2.2
  rw [List.length_map] at hn hw
  have hl2 : 2 ≤ (l.map textX).length := by simpa using h2
  rw [← rowB_text] at hlen
  unfold rowX at hlen ⊢
  generalize l.map textX = K at *
  refine ⟨?_, by simp only [setsE]; exact ⟨zero_ok, hs⟩⟩
  have h1 : oneE 1 (.mk 3 zeroB K 0 0) = true := by simp [oneE, ho, hl2]
  have h3 : nodesE (.mk 3 zeroB K 0 0) ≤ 128 := by simp only [nodesE]; omega
  have h4 : weightE (.mk 3 zeroB K 0 0) ≤ 1024 := by simp [weightE]; omega
  have h5 : nestE (.mk 3 zeroB K 0 0) ≤ 4 := by simp [nestE]; omega
  simp only [isE, h1, Bool.and_eq_true, decide_eq_true_eq, true_and]
  omega
theorem parse_bracket {t : Ex} (h : isE t = true) (hs : setsE t) (hl : (textE t).length + 2 ≤ 1024) : parseE (40 :: (textE t ++ [41])) = (t, 0, 0) := by
  have h' := h
  simp only [isE, Bool.and_eq_true, decide_eq_true_eq] at h'
  have hp := (par_all t 1 h'.1.1.1.1 hs).1
  have := alts_of_alt (alt_of_elem (elem_bracket hp)) (fuelP (40 :: (textE t ++ [41]))) [] (by unfold fuelP; omega) (.inl rfl)
  rw [List.append_nil] at this
  unfold parseE
  rw [if_neg (by simp; omega), this]
  simp [h]
theorem rows_parse {l : List (List Nat)} (h2 : 2 ≤ l.length) (h8 : l.length ≤ 8) (h : ∀ u ∈ l, u.length ≤ 10 ∧ ∀ b ∈ u, b < 256) : parseE (40 :: (rowB l ++ [41])) = (rowX l, 0, 0) := by
  obtain ⟨h1, hs⟩ := isE_row h2 h8 h
  have := rowB_len h
  rw [← rowB_text] at this ⊢
  exact parse_bracket h1 hs (by omega)
theorem rowB_take (l : List (List Nat)) (k : Nat) (hk : k < l.length) (hu : l[k].length ≤ 10 ∧ ∀ b ∈ l[k], b < 256) : rowB (l.take (k + 1)) = rowB (l.take k) ++ ((if 0 < k then [124] else []) ++ printE (textX l[k])) := by
  unfold rowB
  have hk' : k < (l.map textX).length := by simpa using hk
  rw [List.map_take, List.map_take, textL_take 3 _ k hk']
  have s := sm_textX l[k] hu.2
  have hb : inB 3 (textX l[k]).kind = false := by simp [inB, s.kind]
  simp only [List.getElem_map, hb, Bool.false_eq_true, if_false, true_and]
  rw [printE, if_pos (isE_text hu.2 hu.1)]
end Go.Proofs.YtmggajpecgnjkaaDoor

/-
  Arguments that are lists of texts. No statement of the seat is proved here.
-/
namespace Go.Proofs.YtmggajpecgnjkaaDoor
open Go Go.ChangeShapes Go.WideShapes Go.ChangeAt Go.RowKit
set_option maxRecDepth 100000

theorem cells_str1 : Tryd.prog.cellsOf 9 = 1 := by kernel_rfl
section
variable {H : Type} {enc : TypeId × Value → H} {W : World} {base : Nat}
theorem arg_strs {v : Value} {d : DataW H} {p : List MemPlace} (hv : Value.okWide Tryd.prog W .any base 48 v) (h : DataW.Trod enc Tryd.prog W 0 (fun _ => true) true 48 v d p) :
    ∃ (A : Option Addr) (n c : Nat) (l : List ByteArray), v = .slice A n c ∧ n = l.length ∧ l.length ≤ c ∧ c ≤ maxLen ∧ Rd W A (l.map Value.string) ∧ ∀ s ∈ l, s.size ≤ maxLen := by
  obtain ⟨a0, len, cap, rfl⟩ := okWide_slice Tryd.underlying48 hv
  obtain ⟨fuel, hf⟩ := h
  rcases Go.Deep.open_strs Tryd.underlying48 Tryd.underlying9 cells_str1 hf with ⟨hcs, hx⟩ | ⟨a, len', cap', m, Sx, hcs, _, hl, hm, hmm, hx, hcell⟩
  · simp [Value.cells] at hcs
    obtain ⟨rfl, rfl, rfl⟩ := hcs
    exact ⟨none, 0, 0, [], rfl, rfl, Nat.le_refl _, Nat.zero_le _, Rd.nil _ _, by simp⟩
  · simp [Value.cells] at hcs
    obtain ⟨rfl, rfl, rfl⟩ := hcs
    simp only [if_true] at hmm
    refine ⟨some a, len, cap, (List.range len).map Sx, rfl, by simp, by simpa using hl, hm, fun j u hu => ⟨a, rfl, ?_⟩, fun s hs => ?_⟩
    · have hj : j < len := by
        have := (List.getElem?_eq_some_iff.1 hu).1
        simpa using this
      rw [(hcell j (by omega)).1, ← hu]
      simp [hj]
    · obtain ⟨i, hi, rfl⟩ := List.mem_map.1 hs
      exact (hcell i (by have := List.mem_range.1 hi; omega)).2
end
end Go.Proofs.YtmggajpecgnjkaaDoor
