import Derived.Test.YtihlllachfonoaaGreatDoorEvD
import Derived.IntWalk
set_option linter.all false
namespace Go.Ev
open Go.RowKit (Below)

/-! ### lists, worked out -/
theorem nthC_eq {α : Type} : ∀ (l : List α) (n : Nat), nthC l n = l[n]?
  | [], n => by cases n <;> rfl
  | x :: l, 0 => rfl
  | x :: l, n + 1 => by
    show nthC l n = _
    rw [nthC_eq l n]; rfl
theorem dropC_eq {α : Type} : ∀ (n : Nat) (l : List α), dropC n l = l.drop n
  | 0, l => rfl
  | n + 1, [] => rfl
  | n + 1, x :: l => by
    show dropC n l = _
    rw [dropC_eq n l]; rfl
theorem cellK_ok {β : Type} {st : Nat} {c : Cell} {k : D → Option β} {z : β} (h : cellK st c k = some z) : c.has st = true ∧ k c.d = some z := by
  cases c with
  | o d lo =>
    have h : (bif Nat.ble lo st then k d else none) = some z := h
    cases hb : Nat.ble lo st with
    | true => rw [hb] at h; exact ⟨hb, h⟩
    | false => rw [hb] at h; cases h
  | c d lo hi =>
    have h : (bif Nat.ble lo st && Nat.ble st hi then k d else none) = some z := h
    cases hb : (Nat.ble lo st && Nat.ble st hi) with
    | true => rw [hb] at h; exact ⟨hb, h⟩
    | false => rw [hb] at h; cases h
theorem readK_ok {β : Type} {st : Nat} : ∀ {n : Nat} {l : List Cell} {k : List D → Option β} {z : β}, readK st n l k = some z →
    ∃ ds, k ds = some z ∧ ds.length = n ∧ ∀ (i : Nat) d, ds[i]? = some d → ∃ c, l[i]? = some c ∧ c.has st = true ∧ c.d = d
  | 0, l, k, z, h => ⟨[], h, rfl, fun i d hd => by simp at hd⟩
  | n + 1, [], k, z, h => by cases h
  | n + 1, c :: l, k, z, h => by
    have h : cellK st c (fun d => readK st n l fun ds => k (d :: ds)) = some z := by cases c <;> exact h
    obtain ⟨h1, h2⟩ := cellK_ok h
    obtain ⟨ds, h3, h4, h5⟩ := readK_ok h2
    refine ⟨c.d :: ds, h3, by simp [h4], fun i d hd => ?_⟩
    cases i with
    | zero => simp at hd; exact ⟨c, rfl, h1, hd⟩
    | succ i => exact h5 i d (by simpa using hd)
theorem consK_eq {β : Type} (mk : D → Cell) : ∀ (new : List D) (l : List Cell) (k : List Cell → Option β), consK mk new l k = k (new.map mk ++ l)
  | [], l, k => rfl
  | d :: new, l, k => consK_eq mk new l fun l => k (mk d :: l)
theorem openK_eq {β : Type} (new : List D) (k : List Cell → Option β) : openK new k = k (new.map fun d => .o d 0) := by
  unfold openK; rw [consK_eq, List.append_nil]
theorem putsK_ok {β : Type} {st : Nat} {mk : D → Cell} : ∀ {new : List D} {l : List Cell} {k : List Cell → Option β} {z : β}, putsK st mk new l k = some z →
    new.length ≤ l.length ∧ k (new.map mk ++ l.drop new.length) = some z ∧ ∀ i, i < new.length → ∃ c, l[i]? = some c ∧ c.has st = true
  | [], l, k, z, h => ⟨Nat.zero_le _, h, fun i hi => by simp at hi⟩
  | d :: new, [], k, z, h => by cases h
  | d :: new, c :: l, k, z, h => by
    have h : cellK st c (fun _ => putsK st mk new l fun l => k (mk d :: l)) = some z := by cases c <;> exact h
    obtain ⟨h0, h⟩ := cellK_ok h
    obtain ⟨h1, h2, h3⟩ := putsK_ok (new := new) (l := l) (k := fun l => k (mk d :: l)) h
    refine ⟨by simp; omega, h2, fun i hi => ?_⟩
    cases i with
    | zero => exact ⟨c, rfl, h0⟩
    | succ i => exact h3 i (by simpa using hi)
theorem writeK_ok {β : Type} {st : Nat} {mk : D → Cell} {new : List D} : ∀ {off : Nat} {l : List Cell} {k : List Cell → Option β} {z : β}, writeK st mk new off l k = some z →
    off + new.length ≤ l.length ∧ k (l.take off ++ (new.map mk ++ l.drop (off + new.length))) = some z ∧ ∀ i, i < new.length → ∃ c, l[off + i]? = some c ∧ c.has st = true
  | 0, l, k, z, h => by
    obtain ⟨h1, h2, h3⟩ := putsK_ok h
    exact ⟨by omega, by rw [Nat.zero_add]; exact h2, fun i hi => by rw [Nat.zero_add]; exact h3 i hi⟩
  | off + 1, [], k, z, h => by cases h
  | off + 1, c :: l, k, z, h => by
    obtain ⟨h1, h2, h3⟩ := writeK_ok (off := off) (l := l) (k := fun l => k (c :: l)) h
    refine ⟨by simp; omega, ?_, fun i hi => ?_⟩
    · rw [show off + 1 + new.length = off + new.length + 1 by omega]
      exact h2
    · rw [show off + 1 + i = off + i + 1 by omega]
      exact h3 i hi
def shutC (hi : Nat) : Cell → Cell
  | .o d lo => .c d lo hi
  | .c d lo h => .c d lo (bif Nat.ble h hi then h else hi)
theorem shutK_eq {β : Type} (hi : Nat) : ∀ (l : List Cell) (k : List Cell → Option β), shutK hi l k = k (l.map (shutC hi))
  | [], k => rfl
  | c :: l, k => by
    have : shutK hi (c :: l) k = shutK hi l fun l => k (shutC hi c :: l) := by
      show shutK hi l (fun l => _) = _
      cases c <;> rfl
    rw [this, shutK_eq hi l]; rfl
theorem shutC_d (hi : Nat) (c : Cell) : (shutC hi c).d = c.d := by cases c <;> rfl
theorem shutC_has {hi s : Nat} {c : Cell} (h : (shutC hi c).has s = true) : c.has s = true ∧ s ≤ hi := by
  cases c with
  | o d lo =>
    simp only [shutC, Cell.has, Bool.and_eq_true] at h
    exact ⟨h.1, Nat.le_of_ble_eq_true h.2⟩
  | c d lo hi' =>
    simp only [shutC, Cell.has, Bool.and_eq_true] at h ⊢
    have h2 := Nat.le_of_ble_eq_true h.2
    cases hb : Nat.ble hi' hi with
    | true =>
      rw [hb] at h2
      simp only [cond_true] at h2
      have := Nat.le_of_ble_eq_true hb
      exact ⟨⟨h.1, Nat.ble_eq_true_of_le h2⟩, by omega⟩
    | false =>
      rw [hb] at h2
      simp only [cond_false] at h2
      have : ¬ hi' ≤ hi := fun e => by rw [Nat.ble_eq_true_of_le e] at hb; cases hb
      exact ⟨⟨h.1, Nat.ble_eq_true_of_le (by omega)⟩, h2⟩
/-- Cells that are open to a stamp. -/
def OpenTo (st : Nat) (l : List Cell) : Prop := ∀ c ∈ l, ∃ d lo, c = .o d lo ∧ lo ≤ st
theorem growK_ok {β : Type} {st cur : Nat} {new : List D} : ∀ {n : Nat} {l : List Cell} {k : List Cell → Option β} {z : β}, growK st cur new n l k = some z →
    n ≤ l.length ∧ OpenTo st (l.take n) ∧ k (l.take n ++ (new.map (fun d => .o d cur) ++ (l.drop (n + new.length)).map (shutC (cur - 1)))) = some z
  | 0, l, k, z, h => by
    have h : shutK (Nat.pred cur) (dropC (List.length new) l) (fun l => consK (fun d => .o d cur) new l k) = some z := h
    rw [shutK_eq, consK_eq, dropC_eq] at h
    exact ⟨Nat.zero_le _, fun c hc => by simp at hc, by rw [Nat.zero_add]; exact h⟩
  | n + 1, [], k, z, h => by cases h
  | n + 1, .c d lo hi :: l, k, z, h => by cases h
  | n + 1, .o d lo :: l, k, z, h => by
    have h : (bif Nat.ble lo st then growK st cur new n l (fun l => k (.o d lo :: l)) else none) = some z := h
    cases hb : Nat.ble lo st with
    | false => rw [hb] at h; cases h
    | true =>
      rw [hb] at h
      obtain ⟨h1, h2, h3⟩ := growK_ok (n := n) (l := l) h
      refine ⟨by simp; omega, fun c hc => ?_, ?_⟩
      · simp only [List.take_succ_cons, List.mem_cons] at hc
        rcases hc with rfl | hc
        · exact ⟨d, lo, rfl, Nat.le_of_ble_eq_true hb⟩
        · exact h2 c hc
      · rw [show n + 1 + new.length = n + new.length + 1 by omega]
        exact h3
theorem takeK_ok {β : Type} : ∀ {n : Nat} {l : List D} {k : List D → Option β} {z : β}, takeK n l k = some z → n ≤ l.length ∧ k (l.take n) = some z
  | 0, l, k, z, h => ⟨Nat.zero_le _, h⟩
  | n + 1, [], k, z, h => by cases h
  | n + 1, d :: l, k, z, h => by
    obtain ⟨h1, h2⟩ := takeK_ok (n := n) (l := l) (k := fun ds => k (d :: ds)) h
    exact ⟨by simp; omega, h2⟩
/-- What n values put in from o on make of a list. -/
def splice {α : Type} (l : List α) (o : Nat) (new : List α) : List α := l.take o ++ new ++ l.drop (o + new.length)
theorem layK_ok {β : Type} : ∀ {new l : List D} {k : List D → Option β} {z : β}, layK new l k = some z → new.length ≤ l.length ∧ k (new ++ l.drop new.length) = some z
  | [], l, k, z, h => ⟨Nat.zero_le _, h⟩
  | d :: new, [], k, z, h => by cases h
  | d :: new, c :: l, k, z, h => by
    obtain ⟨h1, h2⟩ := layK_ok (new := new) (l := l) (k := fun l => k (d :: l)) h
    exact ⟨by simp; omega, h2⟩
theorem layAtK_ok {β : Type} {new : List D} : ∀ {off : Nat} {l : List D} {k : List D → Option β} {z : β}, layAtK new off l k = some z → off + new.length ≤ l.length ∧ k (splice l off new) = some z
  | 0, l, k, z, h => by
    obtain ⟨h1, h2⟩ := layK_ok h
    exact ⟨by omega, by unfold splice; rw [Nat.zero_add]; exact h2⟩
  | off + 1, [], k, z, h => by cases h
  | off + 1, c :: l, k, z, h => by
    obtain ⟨h1, h2⟩ := layAtK_ok (off := off) (l := l) (k := fun l => k (c :: l)) h
    refine ⟨by simp; omega, ?_⟩
    unfold splice at h2 ⊢
    rw [show off + 1 + new.length = off + new.length + 1 by omega]
    exact h2

/-! ### numbers, worked out -/
theorem natK_eq {β : Type} (n : Nat) (k : Nat → β) : natK n k = k n := by cases n <;> rfl
theorem boolK_eq {β : Type} (b : Bool) (f : D → β) : boolK b f = f (.b b) := by cases b <;> rfl
theorem ltB_eq : ∀ a b : Int, ltB a b = decide (a < b)
  | .ofNat m, .ofNat n => by
    simp only [ltB]
    by_cases h : m < n
    · rw [show Nat.blt m n = true from Nat.ble_eq_true_of_le h]; simp; omega
    · rw [show Nat.blt m n = false by cases hb : Nat.blt m n with | false => rfl | true => exact absurd (Nat.le_of_ble_eq_true hb) h]; simp; omega
  | .ofNat m, .negSucc n => by simp only [ltB]; simp; omega
  | .negSucc m, .ofNat n => by simp only [ltB]; simp; omega
  | .negSucc m, .negSucc n => by
    simp only [ltB]
    by_cases h : n < m
    · rw [show Nat.blt n m = true from Nat.ble_eq_true_of_le h]; simp; omega
    · rw [show Nat.blt n m = false by cases hb : Nat.blt n m with | false => rfl | true => exact absurd (Nat.le_of_ble_eq_true hb) h]; simp; omega
theorem eqB_iff : ∀ {a b : Int}, eqB a b = true ↔ a = b
  | .ofNat m, .ofNat n => by simp [eqB, Nat.beq_eq]; omega
  | .ofNat m, .negSucc n => by simp [eqB]
  | .negSucc m, .ofNat n => by simp [eqB]
  | .negSucc m, .negSucc n => by simp [eqB, Nat.beq_eq]
theorem eqB_eq (a b : Int) : eqB a b = (a == b) := by
  by_cases h : a = b
  · rw [eqB_iff.2 h]; simp [h]
  · have : eqB a b = false := by cases hb : eqB a b with | false => rfl | true => exact absurd (eqB_iff.1 hb) h
    rw [this]; simp [h]
theorem kEq_iff {k k' : IntKind} : kEq k k' = true ↔ k = k' := by cases k <;> cases k' <;> simp [kEq]
theorem imax_wrap (k : IntKind) {m : Nat} (h : m ≤ imax k) : k.wrap (.ofNat m) = .ofNat m := by
  have h0 : (Int.ofNat m) = (m : Int) := rfl
  cases k <;> simp only [imax] at h
  · exact IntWalk.i8_in _ (by omega)
  · exact IntWalk.i16_in _ (by omega)
  · exact IntWalk.i32_in _ (by omega)
  · exact IntWalk.i64_in _ (by omega)
  · exact IntWalk.u8_in _ (by omega)
  · exact IntWalk.u16_in _ (by omega)
  · exact IntWalk.u32_in _ (by omega)
  · exact IntWalk.u64_in _ (by omega)
theorem imin_wrap (k : IntKind) (hs : k.signed = true) {m : Nat} (h : m ≤ imax k) : k.wrap (.negSucc m) = .negSucc m := by
  cases k <;> simp only [imax] at h <;> first | (simp [IntKind.signed] at hs; done) | skip
  · exact IntWalk.i8_in _ (by omega)
  · exact IntWalk.i16_in _ (by omega)
  · exact IntWalk.i32_in _ (by omega)
  · exact IntWalk.i64_in _ (by omega)
theorem wrapK_eq {β : Type} (k : IntKind) (r : Int) (f : D → β) : wrapK k r f = f (.i k (k.wrap r)) := by
  have fin : ∀ r : Int, (Int.casesOn (motive := fun _ => β) (k.wrap r) (fun m => natK m fun m => f (.i k (.ofNat m))) (fun m => natK m fun m => f (.i k (.negSucc m)))) = f (.i k (k.wrap r)) := by
    intro r
    cases k.wrap r with
    | ofNat m => exact natK_eq m _
    | negSucc m => exact natK_eq m _
  cases r with
  | ofNat m =>
    show (bif Nat.ble m (imax k) then natK m (fun m => f (.i k (.ofNat m))) else _) = _
    cases hb : Nat.ble m (imax k) with
    | true => simp only [cond_true, natK_eq]; rw [imax_wrap k (Nat.le_of_ble_eq_true hb)]
    | false => exact fin _
  | negSucc m =>
    show (bif k.signed && Nat.ble m (imax k) then natK m (fun m => f (.i k (.negSucc m))) else _) = _
    cases hb : (k.signed && Nat.ble m (imax k)) with
    | true =>
      rw [Bool.and_eq_true] at hb
      simp only [cond_true, natK_eq]; rw [imin_wrap k hb.1 (Nat.le_of_ble_eq_true hb.2)]
    | false => exact fin _
theorem intK_eq {β : Type} (k : IntKind) (r : Int) (f : D → β) : intK k r f = f (.i k r) := by
  cases r with
  | ofNat m => exact natK_eq m fun m => f (.i k (.ofNat m))
  | negSucc m => exact natK_eq m fun m => f (.i k (.negSucc m))
theorem iadd_eq (a b : Int) : iadd a b = a + b := by cases a <;> cases b <;> rfl
theorem isub_eq (a b : Int) : isub a b = a - b := by
  cases a with
  | negSucc m => rfl
  | ofNat m => cases b with
    | negSucc n => rfl
    | ofNat n =>
      show (bif Nat.ble n m then Int.ofNat (Nat.sub m n) else .negSucc (Nat.sub (Nat.sub n m) 1)) = _
      cases hb : Nat.ble n m with
      | true =>
        have := Nat.le_of_ble_eq_true hb
        simp only [cond_true]
        show Int.ofNat (m - n) = _
        simp; omega
      | false =>
        have : ¬ n ≤ m := fun e => by rw [Nat.ble_eq_true_of_le e] at hb; cases hb
        simp only [cond_false]
        show Int.negSucc (n - m - 1) = _
        simp; omega
theorem imul_eq (a b : Int) : imul a b = a * b := by cases a <;> cases b <;> rfl
theorem iquo_eq (a b : Int) : iquo a b = a.tdiv b := by cases a <;> cases b <;> rfl
theorem irem_eq (a b : Int) : irem a b = a.tmod b := by cases a <;> cases b <;> rfl
theorem ishl_eq (a : Int) (n : Nat) : ishl a n = a * 2 ^ n := by
  cases a with
  | negSucc m => rfl
  | ofNat m =>
    show Int.ofNat (m * 2 ^ n) = _
    simp
theorem ishr_eq (a : Int) (n : Nat) : ishr a n = a.fdiv (2 ^ n) := by
  cases a with
  | negSucc m => rfl
  | ofNat m =>
    show Int.ofNat (m / 2 ^ n) = _
    rw [show ((2 : Int) ^ n) = ((2 ^ n : Nat) : Int) by simp]
    rw [Int.fdiv_eq_ediv_of_nonneg _ (Int.natCast_nonneg _)]
    simp
theorem kbits_eq (k : IntKind) : kbits k = k.bits := by cases k <;> rfl
theorem minN_eq (a b : Nat) : minN a b = min a b := by
  unfold minN
  cases hb : Nat.ble a b with
  | true => have := Nat.le_of_ble_eq_true hb; simp; omega
  | false =>
    have : ¬ a ≤ b := fun e => by rw [Nat.ble_eq_true_of_le e] at hb; cases hb
    simp; omega
theorem ubits_lt {k : IntKind} {m : Nat} (h : m ≤ ubits k) : m < 2 ^ k.bits := by cases k <;> simp only [ubits] at h <;> simp [IntKind.bits] <;> omega
theorem ofInt_toNat {k : IntKind} {m : Nat} (h : m ≤ ubits k) : (BitVec.ofInt k.bits (Int.ofNat m)).toNat = m := by
  have := ubits_lt h
  rw [BitVec.toNat_ofInt]
  show ((m : Int) % ((2 ^ k.bits : Nat) : Int)).toNat = m
  rw [Int.emod_eq_of_lt (Int.natCast_nonneg _) (Int.ofNat_lt.2 this)]
  simp
theorem ibit_eq {slow : IntKind → Int → Int → Int} {fast : IntKind → Nat → Nat → Nat} (h : ∀ k m n, m ≤ ubits k → n ≤ ubits k → slow k (.ofNat m) (.ofNat n) = .ofNat (fast k m n)) (k : IntKind) (a b : Int) : ibit slow fast k a b = slow k a b := by
  cases a with
  | negSucc m => rfl
  | ofNat m => cases b with
    | negSucc n => rfl
    | ofNat n =>
      show (bif Nat.ble m (ubits k) && Nat.ble n (ubits k) then Int.ofNat (fast k m n) else slow k (.ofNat m) (.ofNat n)) = _
      cases hb : (Nat.ble m (ubits k) && Nat.ble n (ubits k)) with
      | false => rfl
      | true =>
        rw [Bool.and_eq_true] at hb
        exact (h k m n (Nat.le_of_ble_eq_true hb.1) (Nat.le_of_ble_eq_true hb.2)).symm
end Go.Ev
