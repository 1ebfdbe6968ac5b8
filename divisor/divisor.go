// Package divisor reduces numbers to lowest terms for the layers whose chapters ask for that.
package divisor

// Common returns the greatest common divisor of numbers that aren't negative: 0 if there are none but 0.
func Common(numbers ...int) int {
	common := 0
	for _, number := range numbers {
		for number != 0 {
			common, number = number, common%number
		}
	}
	return common
}
