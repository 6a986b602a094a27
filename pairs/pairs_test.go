package pairs_test

import (
	"math"
	"slices"
	"testing"

	"brambleweir/api"
	"brambleweir/pairs"
	"brambleweir/plain"
)

// literal returns variable number-1 for a positive number, and the negation of
// variable -number-1 for a negative one.
func literal(number int) api.Lit {
	if number < 0 {
		return api.Lit{Name: -number - 1, Not: true}
	}
	return api.Lit{Name: number - 1}
}

// clauses returns the clauses of the given pairs of literals.
func clauses(numbers ...int) []api.Or {
	ors := []api.Or{}
	for i := 0; i+1 < len(numbers); i += 2 {
		ors = append(ors, api.Or{A: literal(numbers[i]), B: literal(numbers[i+1])})
	}
	return ors
}

// implications returns the clauses by which each literal implies the next one.
func implications(numbers ...int) []api.Or {
	ors := []api.Or{}
	for i := 1; i < len(numbers); i++ {
		ors = append(ors, clauses(-numbers[i-1], numbers[i])...)
	}
	return ors
}

// times returns the clauses again and again.
func times(count int, ors []api.Or) []api.Or {
	return slices.Repeat(ors, count)
}

// backward returns the clauses in the opposite order, and their literals too.
func backward(ors []api.Or) []api.Or {
	out := []api.Or{}
	for _, or := range slices.Backward(ors) {
		out = append(out, api.Or{A: or.B, B: or.A})
	}
	return out
}

// literals returns the literals of the variables.
func literals(names int) []api.Lit {
	all := []api.Lit{}
	for number := 1; number <= names; number++ {
		all = append(all, literal(number), literal(-number))
	}
	return all
}

// clausesOf returns each clause of the variables once, in one order of its literals.
func clausesOf(names int) []api.Or {
	ors := []api.Or{}
	all := literals(names)
	for i, a := range all {
		for _, b := range all[i:] {
			ors = append(ors, api.Or{A: a, B: b})
		}
	}
	return ors
}

// chosen returns the clauses whose binary digits in mask are 1.
func chosen(ors []api.Or, mask int) []api.Or {
	out := []api.Or{}
	for i, or := range ors {
		if mask>>i&1 == 1 {
			out = append(out, or)
		}
	}
	return out
}

// assignments returns all assignments of the variables in lexicographic order.
func assignments(names int) [][]bool {
	if names == 0 {
		return [][]bool{{}}
	}
	all := [][]bool{}
	for _, value := range []bool{false, true} {
		for _, rest := range assignments(names - 1) {
			all = append(all, append([]bool{value}, rest...))
		}
	}
	return all
}

// satisfies is the definition of Is.
func satisfies(ors []api.Or, answer []bool) bool {
	isTrue := func(lit api.Lit) bool {
		if lit.Not {
			return !answer[lit.Name]
		}
		return answer[lit.Name]
	}
	for _, or := range ors {
		if !isTrue(or.A) && !isTrue(or.B) {
			return false
		}
	}
	return true
}

// firstOf is the definition of Solve: the place, among all assignments, of the first
// one that satisfies the clauses, or -1.
func firstOf(all [][]bool, ors []api.Or) int {
	return slices.IndexFunc(all, func(answer []bool) bool { return satisfies(ors, answer) })
}

// mixer returns a function of which each call gives the next number below its
// argument of a fixed sequence without visible order.
func mixer() func(below int) int {
	state := uint64(88172645463325252)
	return func(below int) int {
		state ^= state << 13
		state ^= state >> 7
		state ^= state << 17
		return int(state>>11) % below
	}
}

// smallFormulas calls a function with every set of clauses of at most 2 variables, and
// with the clauses and their literals in the other order.
func smallFormulas(call func(names int, ors []api.Or)) {
	for names := 1; names <= 2; names++ {
		all := clausesOf(names)
		for mask := range 1 << len(all) {
			ors := chosen(all, mask)
			call(names, ors)
			call(names, backward(ors))
		}
	}
}

// mixedFormulas calls a function with clauses of 3 and of 4 variables, in no order and
// some more than once. A part of them is chosen so that one assignment satisfies all.
func mixedFormulas(call func(names int, ors []api.Or)) {
	below := mixer()
	for range 20000 {
		names := 3 + below(api.MaxVars-2)
		all := literals(names)
		every := assignments(names)
		kept := every[below(len(every))]
		isFree := below(3) == 0
		ors := []api.Or{}
		for range below(api.MaxOrs + 1) {
			or := api.Or{A: all[below(len(all))], B: all[below(len(all))]}
			if isFree || satisfies([]api.Or{or}, kept) {
				ors = append(ors, or)
			}
		}
		call(names, ors)
	}
}

// expectSolve compares Solve with an assignment, or with an error and none.
func expectSolve(t *testing.T, names int, ors []api.Or, want []bool, wantErr api.Errno) {
	t.Helper()
	got, err := pairs.Solve(names, ors)
	if plain.Told(err) != wantErr || !slices.Equal(got, want) {
		t.Errorf("Solve(%d, %v) = %v, %v, want %v, %v", names, ors, got, err, want, wantErr)
	}
}

// expectFirst compares Solve with the assignment in a place, or with ErrNone for -1.
func expectFirst(t *testing.T, ors []api.Or, all [][]bool, first int) {
	t.Helper()
	names := len(all[0])
	if first < 0 {
		expectSolve(t, names, ors, nil, api.ErrNone)
		return
	}
	expectSolve(t, names, ors, all[first], api.OK)
}

// expectIs compares Is with a result, or with an error and false.
func expectIs(t *testing.T, names int, ors []api.Or, answer []bool, want bool, wantErr api.Errno) {
	t.Helper()
	got, err := pairs.Is(names, ors, answer)
	if plain.Told(err) != wantErr || got != want {
		t.Errorf("Is(%d, %v, %v) = %v, %v, want %v, %v", names, ors, answer, got, err, want, wantErr)
	}
}

// solution is a formula with the place of the result of Solve among all assignments in
// lexicographic order (in binary digits: the values), or -1 if there is none.
type solution struct {
	names int
	ors   []api.Or
	first int
}

// solutions are formulas without clauses, with one or a few of them, and with chains
// of implications.
func solutions() []solution {
	join := slices.Concat[[]api.Or]
	return []solution{
		{1, nil, 0b0}, {2, nil, 0b00}, {3, clauses(), 0b000}, {4, nil, 0b0000},
		// The example of the document.
		{1, clauses(1, 1), 0b1},
		{1, clauses(-1, -1), 0b0},
		{1, clauses(1, -1), 0b0},
		{1, clauses(-1, 1), 0b0},
		{1, clauses(1, 1, -1, 1), 0b1},
		{1, clauses(1, 1, -1, -1), -1},
		{1, clauses(-1, -1, 1, 1), -1},
		{1, clauses(-1, 1, 1, -1, 1, 1, -1, -1), -1},
		// Of the assignments that satisfy a clause the first one, however it is written.
		{2, clauses(1, 2), 0b01}, {2, clauses(2, 1), 0b01},
		{2, clauses(1, -2), 0b00}, {2, clauses(-1, 2), 0b00}, {2, clauses(-1, -2), 0b00},
		{2, clauses(1, 1), 0b10}, {2, clauses(2, 2), 0b01}, {2, clauses(-2, -2), 0b00},
		{4, clauses(1, 4), 0b0001}, {4, clauses(4, 3), 0b0001}, {4, clauses(3, 2), 0b0010},
		{4, clauses(4, 4), 0b0001}, {4, clauses(1, 1), 0b1000}, {4, clauses(-3, 3), 0b0000},
		// A value that a later variable rules out.
		{2, clauses(1, 2, -2, -2), 0b10}, {2, clauses(1, 2, 1, -2), 0b10},
		{4, clauses(1, 4, 1, -4), 0b1000}, {4, clauses(1, 4, -4, -4), 0b1000},
		{4, clauses(2, 3, 2, -4, 3, 4), 0b0010}, {4, clauses(2, 3, 2, -3, 4, -2), 0b0101},
		// A value that an earlier variable rules out.
		{4, clauses(1, 4, 2, 4), 0b0001}, {4, clauses(2, 3, 1, 2), 0b0100},
		{3, clauses(1, 1, -1, 3), 0b101}, {3, clauses(2, 2, -2, 3), 0b011},
		{3, clauses(1, 1, -1, -3), 0b100}, {3, clauses(1, 3, -3, 2), 0b011},
		// Three of the four clauses with two variables, and all four.
		{2, clauses(1, 2, 1, -2, -1, 2), 0b11}, {2, clauses(1, 2, 1, -2, -1, -2), 0b10},
		{2, clauses(1, 2, -1, 2, -1, -2), 0b01}, {2, clauses(1, -2, -1, 2, -1, -2), 0b00},
		{2, clauses(1, 2, 1, -2, -1, 2, -1, -2), -1},
		{4, clauses(1, 2, 1, -2, -1, 2, -1, -2), -1},
		{4, clauses(3, 4, 3, -4, -3, 4, -3, -4), -1},
		// Variables that are equal, or different.
		{2, clauses(1, -2, -1, 2), 0b00}, {2, clauses(1, 2, -1, -2), 0b01},
		{4, join(implications(1, -2, 3, -4), implications(-1, 2, -3, 4)), 0b0101},
		{3, join(implications(1, -2, 3, -1), implications(-1, 2, -3, 1)), -1},
		{4, join(implications(1, -2, 3, -4, 1), implications(-1, 2, -3, 4, -1)), 0b0101},
		// Implications one behind the other.
		{4, implications(1, 2, 3, 4), 0b0000}, {4, implications(4, 3, 2, 1), 0b0000},
		{4, implications(-1, 2, 3, 4), 0b0111}, {4, implications(-4, 3, 2, 1), 0b0001},
		{4, implications(-1, 4, 3, 2, 1), 0b1000}, {4, implications(-1, 3, 1), 0b1000},
		{4, join(implications(1, 2, 3, 4), clauses(1, 1)), 0b1111},
		{4, join(implications(4, 3, 2, 1), clauses(4, 4)), 0b1111},
		{4, join(implications(3, 1, 4), clauses(3, 3)), 0b1011},
		{4, join(implications(1, 2, 3, 4, -1), clauses(1, 2)), 0b0111},
		{4, implications(1, 2, 3, 4, -1), 0b0000},
		{4, implications(-1, 2, -3, 4, 1), 0b1001},
		{4, join(implications(1, 2, 3, 4, -1), implications(-1, -2, -3, -4, 1)), -1},
		{4, join(implications(-4, 2, 1, 3, 4), implications(4, -2, -4)), -1},
		{4, join(implications(1, 2, 3, 4), clauses(1, 1, -4, -4)), -1},
		// MaxOrs clauses.
		{1, times(20, clauses(1, 1)), 0b1},
		{1, times(10, clauses(1, 1, -1, -1)), -1},
		{4, times(20, clauses(-4, 4)), 0b0000},
		{4, join(times(19, clauses(1, 2)), clauses(-2, -2)), 0b1000},
		{4, join(clauses(4, 4), times(18, clauses(1, 2)), clauses(-4, -4)), -1},
	}
}

// TestSolve covers R17.2.
func TestSolve(t *testing.T) {
	for _, c := range solutions() {
		expectFirst(t, c.ors, assignments(c.names), c.first)
		expectFirst(t, backward(c.ors), assignments(c.names), c.first)
	}
}

// TestIs covers R17.3: no assignment before that of Solve satisfies the formula, and
// none at all if there is none; that one does.
func TestIs(t *testing.T) {
	for _, c := range solutions() {
		for i, answer := range assignments(c.names) {
			if i <= c.first || c.first < 0 {
				expectIs(t, c.names, c.ors, answer, i == c.first, api.OK)
			}
		}
	}
	for _, c := range []struct {
		names  int
		ors    []api.Or
		answer []bool
		want   bool
	}{
		{1, nil, []bool{true}, true},
		{4, nil, []bool{true, false, true, true}, true},
		{1, clauses(1, 1), []bool{true}, true},
		{1, clauses(1, 1), []bool{false}, false},
		{1, clauses(-1, -1), []bool{true}, false},
		{1, clauses(-1, -1), []bool{false}, true},
		{1, clauses(-1, 1), []bool{true}, true},
		{1, clauses(-1, 1), []bool{false}, true},
		// A clause with a true literal is satisfied, with one of two or with both.
		{2, clauses(1, 2), []bool{true, false}, true},
		{2, clauses(1, 2), []bool{true, true}, true},
		{2, clauses(-1, 2), []bool{true, false}, false},
		{2, clauses(-1, 2), []bool{true, true}, true},
		{2, clauses(-1, -2), []bool{true, true}, false},
		// Each clause counts: the first, the last, and one between.
		{3, clauses(1, 2, -1, -2, 3, 3), []bool{true, false, true}, true},
		{3, clauses(3, 3, 1, 2, -1, -2), []bool{true, false, false}, false},
		{3, clauses(1, 2, 3, 3, -1, -2), []bool{true, false, false}, false},
		{3, clauses(1, 2, -1, -2, 3, 3), []bool{true, false, false}, false},
		{4, append(times(19, clauses(1, 2)), clauses(4, 3)...), []bool{true, true, false, false}, false},
		{4, append(times(19, clauses(1, 2)), clauses(4, 3)...), []bool{true, true, false, true}, true},
	} {
		expectIs(t, c.names, c.ors, c.answer, c.want, api.OK)
	}
}

// TestSolveOfAllAssignments covers R17.2 with its definition, for many formulas of
// MaxVars variables that are unsatisfiable, or have each assignment as their first one.
func TestSolveOfAllAssignments(t *testing.T) {
	firsts := map[int]int{}
	compare := func(names int, ors []api.Or) {
		all := assignments(names)
		first := firstOf(all, ors)
		expectFirst(t, ors, all, first)
		if names == api.MaxVars {
			firsts[first]++
		}
	}
	smallFormulas(compare)
	mixedFormulas(compare)
	for first := -1; first < 1<<api.MaxVars; first++ {
		if firsts[first] < 50 {
			t.Errorf("%d formulas with the first assignment %d: too few", firsts[first], first)
		}
	}
}

// TestSolveOfThreeVariables covers R17.2 with its definition on every set of clauses
// of 3 variables, but for the clauses of a literal and its negation.
func TestSolveOfThreeVariables(t *testing.T) {
	ors := slices.DeleteFunc(clausesOf(3), func(or api.Or) bool {
		return or.A.Name == or.B.Name && or.A.Not != or.B.Not
	})
	all := assignments(3)
	for mask := range 1 << len(ors) {
		formula := chosen(ors, mask)
		expectFirst(t, formula, all, firstOf(all, formula))
	}
}

// TestIsOfAllAssignments covers R17.3 with its definition.
func TestIsOfAllAssignments(t *testing.T) {
	counts := map[bool]int{}
	compare := func(names int, ors []api.Or) {
		for _, answer := range assignments(names) {
			want := satisfies(ors, answer)
			counts[want]++
			expectIs(t, names, ors, answer, want, api.OK)
		}
	}
	smallFormulas(compare)
	mixedFormulas(compare)
	if counts[true] < 20000 || counts[false] < 20000 {
		t.Errorf("%v: too few of one result", counts)
	}
}

// TestCheck covers R17.1 for valid formulas, satisfiable or not.
func TestCheck(t *testing.T) {
	compare := func(names int, ors []api.Or) {
		if err := pairs.Check(names, ors); err != nil {
			t.Errorf("Check(%d, %v) = %v, want no error", names, ors, err)
		}
	}
	for _, c := range solutions() {
		compare(c.names, c.ors)
	}
	mixedFormulas(compare)
}

// TestErrors covers the errors of R17.1, which R17.2 and R17.3 have before their own,
// and their order.
func TestErrors(t *testing.T) {
	named := func(a, b int) []api.Or {
		return []api.Or{{A: api.Lit{Name: a}, B: api.Lit{Name: b}}}
	}
	negated := func(a, b int) []api.Or {
		return []api.Or{{A: api.Lit{Name: a, Not: true}, B: api.Lit{Name: b, Not: true}}}
	}
	for _, c := range []struct {
		names int
		ors   []api.Or
		want  api.Errno
	}{
		{0, nil, api.ErrRange},
		{-1, nil, api.ErrRange},
		{5, nil, api.ErrRange},
		{1<<32 + 1, nil, api.ErrRange},
		{math.MinInt, nil, api.ErrRange},
		{math.MaxInt, nil, api.ErrRange},
		{0, clauses(1, 1), api.ErrRange},
		{5, clauses(5, 1), api.ErrRange},
		{5, clauses(1, 1, -1, -1), api.ErrRange},
		// The number of variables goes before the number of clauses.
		{0, times(21, clauses(1, 1)), api.ErrRange},
		{5, times(21, clauses(1, 1)), api.ErrRange},
		{5, times(21, clauses(6, 6)), api.ErrRange},
		{1, times(21, clauses(1, 1)), api.ErrFull},
		{4, times(21, clauses(4, -3)), api.ErrFull},
		{4, times(11, clauses(1, 1, -1, -1)), api.ErrFull},
		{4, times(1000, clauses(2, 2)), api.ErrFull},
		// The number of clauses goes before their literals.
		{1, times(21, clauses(2, 2)), api.ErrFull},
		{1, times(21, named(-1, -1)), api.ErrFull},
		{2, append(clauses(1, 3), times(20, clauses(1, 1))...), api.ErrFull},
		{1, clauses(2, 1), api.ErrRange},
		{1, clauses(1, 2), api.ErrRange},
		{1, clauses(-2, -1), api.ErrRange},
		{1, clauses(-1, -2), api.ErrRange},
		{3, clauses(4, 1), api.ErrRange},
		{3, clauses(1, -4), api.ErrRange},
		{4, clauses(5, 5), api.ErrRange},
		{4, clauses(4, 5), api.ErrRange},
		{1, named(0, -1), api.ErrRange},
		{1, named(-1, 0), api.ErrRange},
		{4, negated(0, -1), api.ErrRange},
		{4, negated(-1, 0), api.ErrRange},
		{4, named(0, math.MaxInt), api.ErrRange},
		{4, named(math.MinInt, 0), api.ErrRange},
		{4, negated(0, math.MinInt), api.ErrRange},
		{4, negated(math.MaxInt, 0), api.ErrRange},
		{4, named(1<<32, 0), api.ErrRange},
		{4, named(0, -1<<63+1), api.ErrRange},
		{2, clauses(1, 1, 2, 2, 1, 3), api.ErrRange},
		{2, clauses(1, 1, -3, 2, 1, 1), api.ErrRange},
		{2, append(times(19, clauses(1, 2)), named(-1, 1)...), api.ErrRange},
		// The literals go before the lack of a satisfying assignment.
		{1, clauses(1, 1, -1, -1, 2, 1), api.ErrRange},
		{1, append(clauses(1, 1, -1, -1), named(0, -1)...), api.ErrRange},
	} {
		if err := pairs.Check(c.names, c.ors); plain.Told(err) != c.want {
			t.Errorf("Check(%d, %v) = %v, want %v", c.names, c.ors, err, c.want)
		}
		expectSolve(t, c.names, c.ors, nil, c.want)
		for size := range 7 {
			expectIs(t, c.names, c.ors, slices.Repeat([]bool{true}, size), false, c.want)
		}
	}
}

// TestErrorsOfAnswers covers the error of R17.3 that its assignment has, whether the
// formula is satisfiable or not.
func TestErrorsOfAnswers(t *testing.T) {
	for _, ors := range [][]api.Or{nil, clauses(1, 1), clauses(-1, 1), clauses(1, 1, -1, -1), times(20, clauses(-1, -1))} {
		for names := 1; names <= api.MaxVars; names++ {
			for _, size := range []int{0, 1, 2, 3, 4, 5, 8, 1000} {
				if size == names {
					continue
				}
				expectIs(t, names, ors, make([]bool, size), false, api.ErrShape)
				expectIs(t, names, ors, slices.Repeat([]bool{true}, size), false, api.ErrShape)
			}
		}
	}
	expectIs(t, 1, nil, nil, false, api.ErrShape)
}

// TestNoAliasing covers Z2: the clauses, the assignment and the memory behind them stay
// as they are, with an error too, and a later result does not depend on what became of
// an earlier one.
func TestNoAliasing(t *testing.T) {
	calls := map[string]func(names int, ors []api.Or, answer []bool) ([]bool, error){
		"Check": func(names int, ors []api.Or, answer []bool) ([]bool, error) {
			return nil, pairs.Check(names, ors)
		},
		"Solve": func(names int, ors []api.Or, answer []bool) ([]bool, error) {
			return pairs.Solve(names, ors)
		},
		"Is": func(names int, ors []api.Or, answer []bool) ([]bool, error) {
			is, err := pairs.Is(names, ors, answer)
			return []bool{is}, err
		},
	}
	for _, c := range []struct {
		names  int
		ors    []api.Or
		answer []bool
	}{
		{4, nil, make([]bool, 4)},
		{3, clauses(3, -1, 1, 2), []bool{false, true, false}},
		{3, clauses(3, -1, 1, 2), []bool{true, true, false}},
		{4, implications(-4, 3, 2, 1), []bool{false, true, true, false}},
		{4, times(20, clauses(2, -1)), []bool{true, true, true, true}},
		{1, clauses(1, 1, -1, -1), []bool{true}},
		{2, clauses(2, 1), []bool{true}},
		{2, clauses(2, 1), []bool{true, false, true}},
		{2, clauses(3, 1), []bool{true, false}},
		{4, times(21, clauses(2, -1)), []bool{true, false, true, false}},
		{5, clauses(2, 1), []bool{true, false, true, false, true}},
	} {
		for name, call := range calls {
			orsMemory := append(slices.Clone(c.ors), clauses(8, -8, 9, -9)...)
			answerMemory := append(slices.Clone(c.answer), true, false, true)
			keptOrs, keptAnswer := slices.Clone(orsMemory), slices.Clone(answerMemory)
			ors, answer := orsMemory[:len(c.ors)], answerMemory[:len(c.answer)]
			first, firstErr := call(c.names, ors, answer)
			want := slices.Clone(first)
			for i, value := range first[:cap(first)] {
				first[:cap(first)][i] = !value
			}
			got, err := call(c.names, ors, answer)
			if !slices.Equal(got, want) || plain.Told(err) != plain.Told(firstErr) {
				t.Errorf("%s of %v: first %v, %v, then %v, %v", name, c, want, firstErr, got, err)
			}
			if !slices.Equal(orsMemory, keptOrs) || !slices.Equal(answerMemory, keptAnswer) {
				t.Errorf("%s of %v changes its arguments, or shares their memory", name, c)
			}
		}
	}
}
