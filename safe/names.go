package safe

import "iter"

// names is a set of variables.
type names map[string]struct{}

func namesIn(list []string) names {
	n := names{}
	for _, name := range list {
		n.put(name)
	}
	return n
}

// put puts a variable, and tells whether it is new.
func (n names) put(name string) bool {
	before := len(n)
	n[name] = struct{}{}
	return len(n) > before
}

// have tells whether all of these variables are among them.
func (n names) have(all iter.Seq[string]) bool {
	for name := range all {
		if _, there := n[name]; !there {
			return false
		}
	}
	return true
}
