// Package samples: texts for tests that go through all short ones. No layer uses it.
package samples

// Each text of at most n of the signs goes to f, shorter ones ahead.
func Each(signs []string, n int, f func(s string)) {
	level := []string{""}
	for left := n; left >= 0; left-- {
		var next []string
		for _, s := range level {
			f(s)
			if left > 0 {
				for _, c := range signs {
					next = append(next, s+c)
				}
			}
		}
		level = next
	}
}
