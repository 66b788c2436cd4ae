package shelter

import (
	"slices"

	"foreshore/api"
)

// account is a shelter at work that counts stacks for proofs: for numbers of chairs and
// hours, as far as they were asked for, how many stacks that have at least so many chairs
// need not be closed before the hour.
type account struct {
	work
	late map[Step]int
}

func (w work) account() account { return account{w, map[Step]int{}} }

// isProof reports whether the list is a proof.
func isProof(list []Step) bool {
	for i, s := range list {
		if i > 0 && list[i-1].Chairs >= s.Chairs {
			return false
		}
	}
	most := Step{api.MaxShelterChairs, api.MaxShelterLast + 1}
	return len(list) > 0 && all(list, most.allows)
}

// allows reports whether the step is valid, if this one has the greatest numbers.
func (most Step) allows(s Step) bool {
	return 1 <= s.Chairs && s.Chairs <= most.Chairs && isBelow(s.Before, most.Before+1)
}

// lateStacks returns how many stacks with at least so many chairs need not be closed
// before the hour of the step.
func (a account) lateStacks(s Step) int {
	if known, met := a.late[s]; met {
		return known
	}
	many := 0
	for stack, x := range a.Stacks {
		if x.Chairs >= s.Chairs && a.span(stack) > s.Before {
			many++
		}
	}
	a.late[s] = many
	return many
}

// most returns the number of stacks with at least so many chairs above which no more can
// be saved always, as far as the hour of the step shows it.
func (a account) most(s Step) int { return a.Hands*s.Before + a.lateStacks(s) }

// bound returns the bound of the proof.
func (a account) bound(proof []Step) int {
	greatest := 0
	for _, x := range a.Stacks {
		greatest = max(greatest, x.Chairs)
	}
	sum := 0
	for fewer := range greatest {
		chairs := fewer + 1
		sum += a.most(Step{chairs, stepFor(proof, chairs).Before})
	}
	return sum
}

// stepFor returns the step of the proof for the number of chairs.
func stepFor(proof []Step, chairs int) Step {
	for _, s := range proof {
		if s.Chairs >= chairs {
			return s
		}
	}
	return proof[len(proof)-1]
}

// proof returns a proof whose bound is the sure number. For each number of chairs it has
// the hour that shows the least bound; just so many of the stacks with at least so many
// chairs can be saved always, and the best plan saves them, for all numbers together.
func (a account) proof() []Step {
	var proof []Step
	for _, chairs := range a.numbers() {
		hour := a.bestHour(chairs)
		// A step with the same hour as the next one is not needed.
		if len(proof) == 0 || proof[0].Before != hour {
			proof = slices.Insert(proof, 0, Step{chairs, hour})
		}
	}
	return proof
}

// numbers returns the numbers of chairs that the stacks have, the greatest ones first: for
// the numbers between two of them the same stacks count. It ends with 1, because a proof
// is not empty, and no step has less.
func (a account) numbers() []int {
	var numbers []int
	for _, stack := range a.mostFirst() {
		numbers = append(numbers, max(a.Stacks[stack].Chairs, 1))
	}
	return append(numbers, 1)
}

// bestHour returns the first hour that shows the least bound for the number of chairs.
func (a account) bestHour(chairs int) int {
	var bounds []int
	for hour := range api.MaxShelterLast + 2 {
		bounds = append(bounds, a.most(Step{chairs, hour}))
	}
	return slices.Index(bounds, minimum(bounds[0], bounds...))
}
